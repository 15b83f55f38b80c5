package tests

import (
	"fmt"
	"slices"
	"testing"

	"loop.example/g00744/impl"
)

func TestNormOfExamples(t *testing.T) {
	cases := []struct {
		list, want []impl.Atom
	}{
		{[]impl.Atom{{Param: 1, Off: 2}, {Param: -1, Off: 2}, {Param: 0, Off: 0}, {Param: 1, Off: 0}}, []impl.Atom{{Param: 0, Off: 0}, {Param: 1, Off: 2}}},
		{[]impl.Atom{{Param: 1, Off: 2}, {Param: -1, Off: 3}, {Param: 0, Off: 0}}, []impl.Atom{{Param: -1, Off: 3}, {Param: 0, Off: 0}, {Param: 1, Off: 2}}},
		{[]impl.Atom{{Param: -1, Off: 4}, {Param: -1, Off: 7}}, []impl.Atom{{Param: -1, Off: 7}}},
		{[]impl.Atom{{Param: -1, Off: 0}}, []impl.Atom{{Param: -1, Off: 0}}},
		{[]impl.Atom{{Param: 4, Off: 0}, {Param: -1, Off: 0}}, []impl.Atom{{Param: 4, Off: 0}}},
		{[]impl.Atom{{Param: 3, Off: 1}, {Param: 2, Off: 1}, {Param: 3, Off: 9}, {Param: 2, Off: 5}}, []impl.Atom{{Param: 2, Off: 5}, {Param: 3, Off: 9}}},
	}
	for _, c := range cases {
		if n := normOf(t, c.list...); !slices.Equal(n, c.want) {
			t.Errorf("NormOf(%v) = %v, not %v", c.list, n, c.want)
		}
	}
}

func TestPromise4NormHasTheValueOfItsGreatestAtom(t *testing.T) {
	lists := atomLists(atomsOver([]int{-1, 0, 1, 4}, []int{0, 1, 2}), 3)
	lists = append(lists, atomLists(atomsOver([]int{-1, 2, 3}, []int{5, 6}), 4)...)
	lists = append(lists, atomLists(atomsOver([]int{-1, 3}, []int{0, 999, 1000}), 4)...)
	envs := append(envsOver(0, 1, 3), envsOver(0, impl.MaxNum)...)
	for _, list := range lists {
		n := normOf(t, list...)
		if !isNorm(n) {
			t.Fatalf("NormOf(%v) = %v", list, n)
		}
		for _, env := range envs {
			if v, want := evalNorm(t, n, env), greatest(list, env); v != want {
				t.Fatalf("NormOf(%v) = %v is %d for %v, not %d", list, n, v, env, want)
			}
		}
	}
}

func TestPromise4OnlyNormWithItsValues(t *testing.T) {
	envs := tellingEnvs()
	found := map[string][]impl.Atom{}
	for _, n := range someNorms() {
		if !impl.NormOk(n) {
			t.Fatalf("%v is refused", n)
		}
		key := fmt.Sprint(values(t, n, envs))
		if other, ok := found[key]; ok && !slices.Equal(other, n) {
			t.Fatalf("%v and %v have the same values", other, n)
		}
		found[key] = n
	}
}

// Every list that NormOk accepts takes part, so that a norm which is not
// canonical shows up next to the one that is.
func TestPromise4NoOtherListIsANorm(t *testing.T) {
	envs := tellingEnvs()
	found := map[string][]impl.Atom{}
	for _, list := range atomLists(atomsOver([]int{-2, -1, 0, 1, 4, 5}, []int{-1, 0, 1, 2}), 3) {
		if impl.NormOk(list) != isNorm(list) {
			t.Fatalf("NormOk(%v) = %v", list, impl.NormOk(list))
		}
		if !impl.NormOk(list) {
			continue
		}
		key := fmt.Sprint(values(t, list, envs))
		if other, ok := found[key]; ok {
			t.Fatalf("%v and %v have the same values", other, list)
		}
		found[key] = list
	}
}

func TestPromise4SameValuesSameNorm(t *testing.T) {
	envs := tellingEnvs()
	found := map[string][]impl.Atom{}
	for _, list := range atomLists(atomsOver([]int{-1, 0, 3}, []int{0, 1, 2}), 4) {
		n := normOf(t, list...)
		var all []int
		for _, env := range envs {
			all = append(all, greatest(list, env))
		}
		key := fmt.Sprint(all)
		if other, ok := found[key]; ok && !slices.Equal(other, n) {
			t.Fatalf("NormOf(%v) = %v, but %v has these values too", list, n, other)
		}
		found[key] = n
	}
}

func TestPromise4NormLeIsExact(t *testing.T) {
	envs := tellingEnvs()
	norms := someNorms()
	var all [][]int
	for _, n := range norms {
		all = append(all, values(t, n, envs))
	}
	for i, a := range norms {
		for j, b := range norms {
			want := true
			for k := range envs {
				want = want && all[i][k] <= all[j][k]
			}
			if impl.NormLe(a, b) != want {
				t.Fatalf("NormLe(%v, %v) = %v", a, b, !want)
			}
		}
	}
}

// With Offs up to MaxOff the values of parameters that contradict may exceed
// those of an env: the chapter admits any values here.
func TestPromise4NormLeIsExactForLargeOffs(t *testing.T) {
	norms := normsOver([]int{-1, 0, 4}, []int{0, 1, 999, 1000})
	envs := envsOver(0, 999, 1000, 5000)
	for _, a := range norms {
		for _, b := range norms {
			want := true
			for _, env := range envs {
				want = want && greatest(a, env) <= greatest(b, env)
			}
			if impl.NormLe(a, b) != want {
				t.Fatalf("NormLe(%v, %v) = %v", a, b, !want)
			}
		}
	}
}

func TestPromise4NormMaxIsTheGreaterOfBoth(t *testing.T) {
	norms := normsOver([]int{-1, 0, 4}, []int{0, 1, 2})
	envs := envsOver(0, 1, 3)
	for _, a := range norms {
		for _, b := range norms {
			m, ok := impl.NormMax(a, b)
			if !ok || !isNorm(m) || !slices.Equal(m, normOf(t, append(slices.Clone(a), b...)...)) {
				t.Fatalf("NormMax(%v, %v) = %v, %v", a, b, m, ok)
			}
			for _, env := range envs {
				if evalNorm(t, m, env) != max(greatest(a, env), greatest(b, env)) {
					t.Fatalf("NormMax(%v, %v) = %v for %v", a, b, m, env)
				}
			}
		}
	}
}

func TestPromise4NormUpRaisesByExactlyK(t *testing.T) {
	envs := envsOver(0, 2)
	for _, n := range someNorms() {
		for _, k := range []int{0, 1, 2, 500, 990, 997} {
			up, ok := impl.NormUp(n, k)
			if !ok || !isNorm(up) || len(up) != len(n) {
				t.Fatalf("NormUp(%v, %d) = %v, %v", n, k, up, ok)
			}
			for i := range n {
				if up[i] != (impl.Atom{Param: n[i].Param, Off: n[i].Off + k}) {
					t.Fatalf("NormUp(%v, %d) = %v", n, k, up)
				}
			}
			for _, env := range envs {
				if evalNorm(t, up, env) != greatest(n, env)+k {
					t.Fatalf("NormUp(%v, %d) = %v for %v", n, k, up, env)
				}
			}
		}
	}
}

func TestPromise4NormLevelHasTheValuesAndLeadsBack(t *testing.T) {
	envs := envsOver(0, 1, 5)
	for _, n := range someNorms() {
		tokens := len(n) - 1
		for _, a := range n {
			tokens += 1 + a.Off
		}
		l, ok := impl.NormLevel(n)
		if ok != (tokens <= impl.MaxLevel) || len(l) > 0 && !ok {
			t.Fatalf("NormLevel(%v) = %v, %v", n, l, ok)
		}
		if !ok {
			continue
		}
		back, ok := impl.NormFree(l)
		if len(l) != tokens || !ok || !slices.Equal(back, n) {
			t.Fatalf("NormLevel(%v) = %v with the norm %v, %v", n, l, back, ok)
		}
		for _, env := range envs {
			if evalLevel(t, l, env) != greatest(n, env) {
				t.Fatalf("NormLevel(%v) = %v for %v", n, l, env)
			}
		}
	}
}

func TestPromise4NormFreeHasTheValuesOfTheLevel(t *testing.T) {
	envs := envsOver(0, 1, 5)
	for _, l := range append(shortLevels(6), freeLevels(t)...) {
		n, ok := impl.NormFree(l)
		if slices.Contains(l, impl.Tok{Op: impl.OpImax}) {
			if ok || len(n) != 0 {
				t.Fatalf("NormFree(%v) = %v, %v", l, n, ok)
			}
			continue
		}
		if !ok || !isNorm(n) {
			t.Fatalf("NormFree(%v) = %v, %v", l, n, ok)
		}
		x := treeOf(l)
		for _, env := range envs {
			if evalNorm(t, n, env) != x.value(env) {
				t.Fatalf("NormFree(%v) = %v for %v", l, n, env)
			}
		}
	}
}

// freeLevels are long levels without OpImax.
func freeLevels(t *testing.T) [][]impl.Tok {
	t.Helper()
	out := readLevels(t,
		"u0 s u1 max s u2 max s u3 max s u4 max s 0 s s s max",
		"u0 u1 s u2 s u3 s u4 s max s max s max s max s",
		"0 s s s s s s s s s u3 max s u3 s s s s s s s s s max",
		"u4 u4 max u4 s max u4 s s max u4 s max u4 max s",
		"0 u0 max s 0 u0 max s s max 0 u0 max s s s max 0 max s",
		"0 0 0 0 0 0 0 0 0 0 0 0 max max max max max max max max max max max",
		"u0 0 s max u1 0 s s max max s u2 0 s s s s max s max",
	)
	return append(out, tower(impl.MaxLevel))
}
