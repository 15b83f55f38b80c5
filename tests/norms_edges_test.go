package tests

import (
	"math"
	"slices"
	"testing"

	"loop.example/g00744/impl"
)

// rejectsNorm checks that every function refuses the list that is not a norm.
func rejectsNorm(t *testing.T, n []impl.Atom) {
	t.Helper()
	if impl.NormOk(n) {
		t.Errorf("%v is accepted", n)
	}
	good := []impl.Atom{{Param: 0, Off: 1}}
	m, ok := impl.NormMax(n, good)
	refusedNorm(t, "NormMax, first norm", m, ok)
	m, ok = impl.NormMax(good, n)
	refusedNorm(t, "NormMax, second norm", m, ok)
	m, ok = impl.NormMax(n, n)
	refusedNorm(t, "NormMax, both norms", m, ok)
	for k := range 3 {
		m, ok = impl.NormUp(n, k)
		refusedNorm(t, "NormUp", m, ok)
	}
	if v, ok := impl.NormEval(n, zeroEnv()); ok || v != 0 {
		t.Errorf("NormEval(%v) = %d, %v", n, v, ok)
	}
	if impl.NormLe(n, good) || impl.NormLe(good, n) || impl.NormLe(n, n) {
		t.Errorf("NormLe holds for %v", n)
	}
	l, ok := impl.NormLevel(n)
	refused(t, "NormLevel", l, ok)
}

func refusedNorm(t *testing.T, what string, n []impl.Atom, ok bool) {
	t.Helper()
	if ok || len(n) != 0 {
		t.Errorf("%s: %v, %v", what, n, ok)
	}
}

func TestInvalidNorms(t *testing.T) {
	lists := [][]impl.Atom{
		nil, {},
		{{Param: 1}, {Param: 0}},
		{{Param: 1}, {Param: 1}},
		{{Param: 1, Off: 1}, {Param: 1}},
		{{Param: 0}, {Param: 2}, {Param: 1}},
		{{Param: 0}, {Param: 4}, {Param: 4}},
		{{Param: 0}, {Param: -1, Off: 5}},
		{{Param: -1, Off: 5}, {Param: -1, Off: 4}},
		{{Param: -1, Off: 5}, {Param: -1, Off: 6}},
		{{Param: -1, Off: 5}, {Param: -1, Off: 4}, {Param: 0, Off: 3}},
		{{Param: -1}, {Param: 0}},
		{{Param: -1, Off: 2}, {Param: 1, Off: 2}},
		{{Param: -1, Off: 2}, {Param: 1, Off: 3}},
		{{Param: -1, Off: 2}, {Param: 1, Off: 1}, {Param: 4, Off: 2}},
		{{Param: -1, Off: 2}, {Param: 1, Off: 2}, {Param: 4, Off: 1}},
		{{Param: -1, Off: 1000}, {Param: 1, Off: 1000}},
		make([]impl.Atom, 101), make([]impl.Atom, 100000),
	}
	for _, n := range lists {
		rejectsNorm(t, n)
	}
}

func TestInvalidAtoms(t *testing.T) {
	bad := []impl.Atom{
		{Param: -2}, {Param: impl.MaxParams}, {Param: impl.MaxParams + 1}, {Param: math.MaxInt}, {Param: math.MinInt},
		{Off: -1}, {Off: impl.MaxOff + 1}, {Off: math.MaxInt}, {Off: math.MinInt},
		{Param: -1, Off: -1}, {Param: -1, Off: impl.MaxOff + 1}, {Param: -2, Off: -1},
	}
	for _, a := range bad {
		rejectsNorm(t, []impl.Atom{a})
		rejectsNorm(t, []impl.Atom{a, {Param: 4}})
		rejectsNorm(t, []impl.Atom{{Param: -1, Off: 500}, a})
		for _, list := range [][]impl.Atom{{a}, {a, {Param: 1}}, {{Param: 1}, a}, {{Param: -1, Off: impl.MaxOff}, {}, a, {}}} {
			n, ok := impl.NormOf(list)
			refusedNorm(t, "NormOf with an invalid atom", n, ok)
		}
		// A greater atom of the same Param does not hide an invalid one.
		n, ok := impl.NormOf([]impl.Atom{{Param: a.Param, Off: 7}, a, {Param: a.Param, Off: 7}})
		refusedNorm(t, "NormOf with a hidden invalid atom", n, ok)
	}
}

func TestAtomLimits(t *testing.T) {
	for _, p := range []int{-1, 0, impl.MaxParams - 1} {
		for _, off := range []int{0, impl.MaxOff} {
			n := []impl.Atom{{Param: p, Off: off}}
			if !impl.NormOk(n) || !slices.Equal(normOf(t, n...), n) {
				t.Errorf("%v is refused", n)
			}
			env := []int{1000, 1, 2, 3, 1000}
			want := off
			if p >= 0 {
				want += 1000
			}
			if v := evalNorm(t, n, env); v != want {
				t.Errorf("%v is %d, not %d", n, v, want)
			}
		}
	}
	all := []impl.Atom{{Param: -1, Off: 1000}, {Param: 0, Off: 999}, {Param: 1}, {Param: 2}, {Param: 3}, {Param: 4, Off: 999}}
	if !impl.NormOk(all) || !impl.NormOk(all[1:]) || evalNorm(t, all, zeroEnv()) != 1000 {
		t.Error("a norm of all Params is refused")
	}
}

func TestNormOfLength(t *testing.T) {
	for _, n := range []int{0, 1, 2, 99, 100, 101, 102, 1000, 100000} {
		list := make([]impl.Atom, n)
		for i := range list {
			list[i] = impl.Atom{Param: 4 - i%6, Off: i % 50}
		}
		out, ok := impl.NormOf(list)
		if ok != (n >= 1 && n <= 100) || !ok && len(out) != 0 || ok && !isNorm(out) {
			t.Errorf("NormOf of %d atoms: %v, %v", n, out, ok)
		}
	}
	list := slices.Repeat([]impl.Atom{{Param: 2, Off: 3}}, 100)
	list[99] = impl.Atom{Param: 1, Off: 8}
	if n := normOf(t, list...); !slices.Equal(n, []impl.Atom{{Param: 1, Off: 8}, {Param: 2, Off: 3}}) {
		t.Error(n)
	}
	n, ok := impl.NormOf(nil)
	refusedNorm(t, "NormOf of nil", n, ok)
	n, ok = impl.NormOf(slices.Repeat([]impl.Atom{{Param: 2, Off: 3}}, 101))
	refusedNorm(t, "NormOf of 101 equal atoms", n, ok)
}

func TestRedundantNumber(t *testing.T) {
	others := []impl.Atom{{Param: 0, Off: 4}, {Param: 3, Off: 7}, {Param: 4, Off: 2}}
	for off := range 12 {
		number := impl.Atom{Param: -1, Off: off}
		want := slices.Clone(others)
		if off > 7 {
			want = slices.Insert(want, 0, number)
		}
		for place := 0; place <= len(others); place++ {
			list := slices.Insert(slices.Clone(others), place, number)
			if n := normOf(t, list...); !slices.Equal(n, want) {
				t.Errorf("NormOf(%v) = %v", list, n)
			}
		}
		m, ok := impl.NormMax([]impl.Atom{number}, others)
		if !ok || !slices.Equal(m, want) {
			t.Errorf("NormMax with the number %d: %v, %v", off, m, ok)
		}
		if impl.NormOk(slices.Insert(slices.Clone(others), 0, number)) != (off > 7) {
			t.Errorf("NormOk with the number %d", off)
		}
	}
	// The number of one norm may be made redundant by an atom of the other.
	m, ok := impl.NormMax([]impl.Atom{{Param: -1, Off: 3}, {Param: 0, Off: 2}}, []impl.Atom{{Param: 1, Off: 3}})
	if !ok || !slices.Equal(m, []impl.Atom{{Param: 0, Off: 2}, {Param: 1, Off: 3}}) {
		t.Error(m, ok)
	}
	// A smaller atom of the same Param does not count against the number.
	n := normOf(t, impl.Atom{Param: 0, Off: 9}, impl.Atom{Param: -1, Off: 5}, impl.Atom{Param: 0, Off: 1})
	if !slices.Equal(n, []impl.Atom{{Param: 0, Off: 9}}) {
		t.Error(n)
	}
}

func TestNormOfInAnyOrder(t *testing.T) {
	atoms := []impl.Atom{{Param: -1, Off: 6}, {Param: 0, Off: 5}, {Param: 0, Off: 2}, {Param: 2, Off: 1}, {Param: 4, Off: 5}, {Param: 4, Off: 5}}
	want := []impl.Atom{{Param: -1, Off: 6}, {Param: 0, Off: 5}, {Param: 2, Off: 1}, {Param: 4, Off: 5}}
	var try func(list, rest []impl.Atom)
	try = func(list, rest []impl.Atom) {
		if len(rest) == 0 {
			if n := normOf(t, list...); !slices.Equal(n, want) {
				t.Fatalf("NormOf(%v) = %v", list, n)
			}
		}
		for i, a := range rest {
			try(append(slices.Clone(list), a), slices.Delete(slices.Clone(rest), i, i+1))
		}
	}
	try(nil, atoms)
}

func TestNormUpLimits(t *testing.T) {
	n := []impl.Atom{{Param: -1, Off: 5}, {Param: 1, Off: 4}, {Param: 2, Off: 0}}
	if up, ok := impl.NormUp(n, 0); !ok || !slices.Equal(up, n) {
		t.Error(up, ok)
	}
	if up, ok := impl.NormUp(n, 995); !ok || !slices.Equal(up, []impl.Atom{{Param: -1, Off: 1000}, {Param: 1, Off: 999}, {Param: 2, Off: 995}}) {
		t.Error(up, ok)
	}
	for _, k := range []int{996, 997, 1000, 1001, 1 << 40, math.MaxInt - 5, math.MaxInt - 4, math.MaxInt, -1, -5, -1000, math.MinInt} {
		up, ok := impl.NormUp(n, k)
		refusedNorm(t, "NormUp", up, ok)
	}
	zero := []impl.Atom{{Param: 3}}
	if up, ok := impl.NormUp(zero, 1000); !ok || !slices.Equal(up, []impl.Atom{{Param: 3, Off: 1000}}) {
		t.Error(up, ok)
	}
	for _, k := range []int{1001, math.MaxInt, -1} {
		up, ok := impl.NormUp(zero, k)
		refusedNorm(t, "NormUp of a parameter", up, ok)
	}
	// A negative k is refused even where all Offs would stay valid.
	up, ok := impl.NormUp([]impl.Atom{{Param: -1, Off: 9}, {Param: 1, Off: 8}}, -3)
	refusedNorm(t, "NormUp with a negative k", up, ok)
	// The Off that is too large may be the last one.
	up, ok = impl.NormUp([]impl.Atom{{Param: 0}, {Param: 4, Off: 1000}}, 1)
	refusedNorm(t, "NormUp with a large last Off", up, ok)
}

func TestNormEvalEnvs(t *testing.T) {
	n := []impl.Atom{{Param: -1, Off: 5}, {Param: 1, Off: 4}}
	if v := evalNorm(t, n, []int{1000, 1000, 1000, 1000, 1000}); v != 1004 {
		t.Error(v)
	}
	if v := evalNorm(t, n, []int{9, 1, 9, 9, 9}); v != 5 {
		t.Error(v)
	}
	for _, env := range badEnvs() {
		for _, n := range [][]impl.Atom{n, {{Param: -1, Off: 5}}} {
			if v, ok := impl.NormEval(n, env); ok || v != 0 {
				t.Errorf("NormEval(%v, %v) = %d, %v", n, env, v, ok)
			}
		}
	}
}

func TestNormLeOfNumbers(t *testing.T) {
	for off := range 6 {
		number := []impl.Atom{{Param: -1, Off: off}}
		param := []impl.Atom{{Param: 2, Off: 3}}
		pair := []impl.Atom{{Param: 0, Off: 1}, {Param: 4, Off: 3}}
		if impl.NormLe(number, param) != (off <= 3) || impl.NormLe(number, pair) != (off <= 3) {
			t.Errorf("the number %d against an Off of 3", off)
		}
		if impl.NormLe(param, number) || impl.NormLe(pair, number) {
			t.Errorf("a parameter is at most %d", off)
		}
		if impl.NormLe(number, []impl.Atom{{Param: -1, Off: 3}}) != (off <= 3) {
			t.Errorf("the numbers %d and 3", off)
		}
	}
	// No parameter is at most a number, however large the number is.
	if impl.NormLe([]impl.Atom{{Param: 0}}, []impl.Atom{{Param: -1, Off: impl.MaxOff}}) {
		t.Error("u0 is at most MaxOff")
	}
	if impl.NormLe([]impl.Atom{{Param: 0}}, []impl.Atom{{Param: 1, Off: impl.MaxOff}}) {
		t.Error("u0 is at most another parameter")
	}
	if !impl.NormLe([]impl.Atom{{Param: -1, Off: impl.MaxOff}}, []impl.Atom{{Param: 1, Off: impl.MaxOff}}) {
		t.Error("MaxOff is not at most a parameter with this Off")
	}
}

// The chapter is read so that each atom but the first is directly followed by
// its OpMax; an OpMax for each of them at the end would have the same values.
func TestNormLevelTokens(t *testing.T) {
	cases := []struct {
		norm []impl.Atom
		text string
	}{
		{[]impl.Atom{{Param: -1}}, "0"},
		{[]impl.Atom{{Param: -1, Off: 2}}, "0 s s"},
		{[]impl.Atom{{Param: 4}}, "u4"},
		{[]impl.Atom{{Param: -1, Off: 3}, {Param: 1, Off: 2}}, "0 s s s u1 s s max"},
		{[]impl.Atom{{Param: 0, Off: 1}, {Param: 3}}, "u0 s u3 max"},
		{[]impl.Atom{{Param: 0}, {Param: 1}, {Param: 2, Off: 1}}, "u0 u1 max u2 s max"},
		{[]impl.Atom{{Param: -1, Off: 1}, {Param: 0}, {Param: 1}, {Param: 2}, {Param: 3}, {Param: 4}}, "0 s u0 max u1 max u2 max u3 max u4 max"},
	}
	for _, c := range cases {
		l, ok := impl.NormLevel(c.norm)
		if !ok || impl.LevelText(l) != c.text {
			t.Errorf("NormLevel(%v) = %q, %v", c.norm, impl.LevelText(l), ok)
		}
	}
}

func TestNormLevelLength(t *testing.T) {
	fits := [][]impl.Atom{
		{{Param: -1, Off: 23}},
		{{Param: 2, Off: 23}},
		{{Param: 0, Off: 10}, {Param: 1, Off: 11}},
		{{Param: -1, Off: 8}, {Param: 0, Off: 0}, {Param: 1, Off: 1}, {Param: 2, Off: 1}, {Param: 3, Off: 1}, {Param: 4, Off: 2}},
	}
	for _, n := range fits {
		l, ok := impl.NormLevel(n)
		if back, same := impl.NormFree(l); !ok || len(l) != impl.MaxLevel || !same || !slices.Equal(back, n) {
			t.Errorf("NormLevel(%v) = %v, %v", n, l, ok)
		}
	}
	long := [][]impl.Atom{
		{{Param: -1, Off: 24}},
		{{Param: 2, Off: 24}},
		{{Param: 0, Off: 11}, {Param: 1, Off: 11}},
		{{Param: -1, Off: 7}, {Param: 0, Off: 0}, {Param: 1, Off: 1}, {Param: 2, Off: 2}, {Param: 3, Off: 2}, {Param: 4, Off: 2}},
		{{Param: -1, Off: 1000}},
		{{Param: -1, Off: 1000}, {Param: 0, Off: 999}, {Param: 1, Off: 999}, {Param: 2, Off: 999}, {Param: 3, Off: 999}, {Param: 4, Off: 999}},
	}
	for _, n := range long {
		if !impl.NormOk(n) {
			t.Fatal(n)
		}
		l, ok := impl.NormLevel(n)
		refused(t, "NormLevel of a norm that is too long", l, ok)
	}
}

func TestNormFreeLimits(t *testing.T) {
	texts := map[string][]impl.Atom{
		"0":                    {{Param: -1}},
		"0 s s":                {{Param: -1, Off: 2}},
		"u4 s":                 {{Param: 4, Off: 1}},
		"u0 0 max":             {{Param: 0}},
		"0 u0 max":             {{Param: 0}},
		"0 s u0 s max":         {{Param: 0, Off: 1}},
		"0 s s u0 s max":       {{Param: -1, Off: 2}, {Param: 0, Off: 1}},
		"0 s u0 max s":         {{Param: -1, Off: 2}, {Param: 0, Off: 1}},
		"0 s u0 max u1 s max":  {{Param: 0}, {Param: 1, Off: 1}},
		"u1 u0 s max s u1 max": {{Param: 0, Off: 2}, {Param: 1, Off: 1}},
		"u1 u0 u1 s s max max": {{Param: 0}, {Param: 1, Off: 2}},
		"0 0 s max 0 s s max":  {{Param: -1, Off: 2}},
	}
	for text, want := range texts {
		n, ok := impl.NormFree(readLevel(t, text))
		if !ok || !slices.Equal(n, want) {
			t.Errorf("NormFree of %s: %v, %v", text, n, ok)
		}
	}
	if n, ok := impl.NormFree(tower(impl.MaxLevel)); !ok || !slices.Equal(n, []impl.Atom{{Param: 1, Off: 23}}) {
		t.Error(n, ok)
	}
	for _, text := range []string{"u0 u1 imax", "0 0 imax", "u0 0 s imax", "u0 u0 imax s u1 max", "u1 0 0 imax max"} {
		n, ok := impl.NormFree(readLevel(t, text))
		refusedNorm(t, "NormFree of "+text, n, ok)
	}
	for _, l := range badLevels() {
		n, ok := impl.NormFree(l)
		refusedNorm(t, "NormFree of an invalid level", n, ok)
	}
}
