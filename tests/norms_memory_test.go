package tests

import (
	"math"
	"slices"
	"testing"

	"loop.example/g00744/impl"
)

var behindAtom = impl.Atom{Param: 4, Off: 900}
var scribbleAtom = impl.Atom{Param: 77, Off: -77}

func TestNormsModifyAndShareNothing(t *testing.T) {
	a := spare([]impl.Atom{{Param: -1, Off: 3}, {Param: 0, Off: 2}}, behindAtom)
	b := spare([]impl.Atom{{Param: 1, Off: 1}}, behindAtom)
	list := spare([]impl.Atom{{Param: 1, Off: 2}, {Param: -1, Off: 2}, {Param: 0}, {Param: 1}}, behindAtom)
	level := spare(readLevel(t, "0 s s u0 max"), behindTok)
	env := spare([]int{3, 2, 0, 0, 0}, 9)
	keptA, keptB, keptList, keptLevel, keptEnv := whole(a), whole(b), whole(list), whole(level), whole(env)

	impl.NormOk(a)
	impl.NormLe(a, b)
	impl.NormLe(b, b)
	impl.NormEval(a, env)
	impl.NormUp(a, 998)
	impl.NormOf(list[:0])
	for _, n := range [][]impl.Atom{a, b, list} {
		out, ok := impl.NormOf(n)
		if !ok {
			t.Fatal(n)
		}
		scribble(out, scribbleAtom)
	}
	for _, k := range []int{0, 1, 997} {
		out, ok := impl.NormUp(a, k)
		if !ok {
			t.Fatal(k)
		}
		scribble(out, scribbleAtom)
	}
	for _, n := range [][]impl.Atom{a, b} {
		out, _ := impl.NormMax(n, a)
		scribble(out, scribbleAtom)
		out, _ = impl.NormMax(b, n)
		scribble(out, scribbleAtom)
		toks, _ := impl.NormLevel(n)
		scribble(toks, scribbleTok)
	}
	free, ok := impl.NormFree(level)
	if !ok {
		t.Fatal(level)
	}
	scribble(free, scribbleAtom)

	if !slices.Equal(whole(a), keptA) || !slices.Equal(whole(b), keptB) || !slices.Equal(whole(list), keptList) {
		t.Error("a list of atoms was modified or is shared with a result")
	}
	if !slices.Equal(whole(level), keptLevel) || !slices.Equal(whole(env), keptEnv) {
		t.Error("a level or an env was modified")
	}
}

func TestNormsReadNothingBehindTheLength(t *testing.T) {
	n := spare([]impl.Atom{{Param: 1, Off: 2}}, behindAtom)
	if got := normOf(t, n...); !slices.Equal(got, []impl.Atom{{Param: 1, Off: 2}}) {
		t.Error(got)
	}
	if impl.NormOk(n[:0]) || impl.NormLe([]impl.Atom{{Param: 4, Off: 1}}, n) || evalNorm(t, n, zeroEnv()) != 2 {
		t.Error("an atom behind the length is read")
	}
	if m, ok := impl.NormMax(n, n); !ok || !slices.Equal(m, []impl.Atom{{Param: 1, Off: 2}}) {
		t.Error(m, ok)
	}
	if l, ok := impl.NormLevel(n); !ok || impl.LevelText(l) != "u1 s s" {
		t.Error(l, ok)
	}
	if f, ok := impl.NormFree(spare(readLevel(t, "u1"), behindTok)); !ok || !slices.Equal(f, []impl.Atom{{Param: 1}}) {
		t.Error(f, ok)
	}
	if _, ok := impl.NormEval(n, make([]int, impl.MaxParams+1)[:impl.MaxParams-1]); ok {
		t.Error("a short env is accepted")
	}
}

func TestTwoNormsShareNothing(t *testing.T) {
	n := []impl.Atom{{Param: -1, Off: 3}, {Param: 0, Off: 2}}
	calls := []func() []impl.Atom{
		func() []impl.Atom { return normOf(t, n...) },
		func() []impl.Atom { m, _ := impl.NormMax(n, n); return m },
		func() []impl.Atom { m, _ := impl.NormUp(n, 0); return m },
		func() []impl.Atom { m, _ := impl.NormFree(readLevel(t, "0 s s s u0 s s max")); return m },
	}
	for i, call := range calls {
		first, second := call(), call()
		scribble(first, scribbleAtom)
		if !slices.Equal(second, n) || !slices.Equal(call(), n) {
			t.Errorf("call %d: %v", i, second)
		}
	}
	l1, _ := impl.NormLevel(n)
	l2, _ := impl.NormLevel(n)
	scribble(l1, scribbleTok)
	if impl.LevelText(l2) != "0 s s s u0 s s max" {
		t.Error(l2)
	}
}

// A map is ranged over in another order each time, so that a result which
// depends on the order does not stay the same for long.
func TestNormsDoNotDependOnTheOrderOfAMap(t *testing.T) {
	list := []impl.Atom{{Param: 3, Off: 1}, {Param: -1, Off: 6}, {Param: 0, Off: 5}, {Param: 4}, {Param: 2, Off: 5}, {Param: 1, Off: 3}}
	want := []impl.Atom{{Param: -1, Off: 6}, {Param: 0, Off: 5}, {Param: 1, Off: 3}, {Param: 2, Off: 5}, {Param: 3, Off: 1}, {Param: 4}}
	level := readLevel(t, "u3 0 s s s max u0 s s max u4 max u1 max s")
	free := []impl.Atom{{Param: -1, Off: 4}, {Param: 0, Off: 3}, {Param: 1, Off: 1}, {Param: 3, Off: 1}, {Param: 4, Off: 1}}
	for range 1000 {
		if n := normOf(t, list...); !slices.Equal(n, want) {
			t.Fatal(n)
		}
		if n := normOf(t, append(slices.Clone(list), impl.Atom{Param: 2, Off: 6})...); n[0].Param != 0 || len(n) != 5 {
			t.Fatal(n)
		}
		if m, ok := impl.NormMax(want[:3], want[3:]); !ok || !slices.Equal(m, want) {
			t.Fatal(m)
		}
		if n, ok := impl.NormFree(level); !ok || !slices.Equal(n, free) {
			t.Fatal(n)
		}
	}
}

func TestNormsKeepNoState(t *testing.T) {
	n := []impl.Atom{{Param: -1, Off: 3}, {Param: 0, Off: 2}}
	for range 3 {
		impl.NormOf([]impl.Atom{{Param: 2, Off: 900}, {Param: 2, Off: 2000}})
		impl.NormUp(n, 999)
		if got := normOf(t, n...); !slices.Equal(got, n) {
			t.Fatal(got)
		}
	}
}

func TestNoNormPanics(t *testing.T) {
	numbers := []int{math.MinInt, -1001, -2, -1, 0, 1, 4, 5, 1000, 1001, math.MaxInt - 1, math.MaxInt}
	lists := [][]impl.Atom{nil, {}, make([]impl.Atom, 100), make([]impl.Atom, 101), make([]impl.Atom, 100000)}
	for _, p := range numbers {
		for _, off := range numbers {
			lists = append(lists, []impl.Atom{{Param: p, Off: off}})
			lists = append(lists, []impl.Atom{{Param: -1, Off: 1000}, {Param: p, Off: off}})
			lists = append(lists, []impl.Atom{{Param: p, Off: off}, {Param: 4, Off: 1}})
		}
	}
	envs := [][]int{nil, {}, numbers, numbers[:5], numbers[4:9], make([]int, 5), make([]int, 100000)}
	for _, n := range lists {
		impl.NormOk(n)
		impl.NormOf(n)
		impl.NormLevel(n)
		for _, m := range lists {
			impl.NormMax(n, m)
			impl.NormLe(n, m)
		}
		for _, k := range numbers {
			impl.NormUp(n, k)
		}
		for _, env := range envs {
			impl.NormEval(n, env)
		}
	}
	sequences(append(goodToks(), badToks()...), 3, func(l []impl.Tok) { impl.NormFree(l) })
	impl.NormFree(make([]impl.Tok, 100000))
}
