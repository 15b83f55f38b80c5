package tests

import (
	"math"
	"slices"
	"testing"

	"loop.example/g00744/impl"
)

// spare returns a copy of the list with room behind it that holds more elements.
func spare[T any](list []T, behind T) []T {
	out := slices.Clone(list)
	for range 8 {
		out = append(out, behind)
	}
	return out[:len(list)]
}

// whole is a copy of the list and of what stands behind it.
func whole[T any](list []T) []T {
	return slices.Clone(list[:cap(list)])
}

// scribble overwrites a result and the spare capacity behind it.
func scribble[T any](list []T, with T) {
	list = list[:cap(list)]
	for i := range list {
		list[i] = with
	}
}

var behindTok = impl.Tok{Op: impl.OpSucc}
var scribbleTok = impl.Tok{Op: 77, N: 77}

func TestNoArgumentIsModifiedOrShared(t *testing.T) {
	a := spare(readLevel(t, "u0 s u1 imax"), behindTok)
	b := spare(readLevel(t, "u1"), behindTok)
	env := spare([]int{3, 2, 0, 0, 0}, 9)
	with := spare([]impl.Level{{Toks: a}, {Toks: b}}, impl.Level{})
	keptA, keptB, keptEnv, keptWith := whole(a), whole(b), whole(env), whole(with)

	impl.LevelOk(a)
	impl.LevelEval(a, env)
	impl.LevelOff(a)
	impl.LevelText(a)
	scribble(impl.LevelParams(a), -7)
	for _, n := range []int{0, 1, 20} {
		s, _ := impl.LevelSucc(a, n)
		scribble(s, scribbleTok)
	}
	for _, op := range []int{impl.OpMax, impl.OpImax} {
		j, _ := impl.LevelJoin(op, a, b)
		scribble(j, scribbleTok)
		j, _ = impl.LevelJoin(op, a, a)
		scribble(j, scribbleTok)
	}
	for _, l := range [][]impl.Tok{a, b, {{Op: impl.OpParam, N: 0}}, {{Op: impl.OpZero}}} {
		kept := slices.Clone(l)
		s, ok := impl.LevelSubst(l, with)
		if !ok {
			t.Fatal(l)
		}
		scribble(s, scribbleTok)
		if !slices.Equal(l, kept) {
			t.Error("LevelSubst changed its level")
		}
	}

	if !slices.Equal(whole(a), keptA) || !slices.Equal(whole(b), keptB) || !slices.Equal(whole(env), keptEnv) {
		t.Error("an argument was modified or is shared with a result")
	}
	for i, x := range whole(with) {
		if !slices.Equal(x.Toks, keptWith[i].Toks) {
			t.Error("an element of with was modified")
		}
	}
}

func TestFailingCallsModifyNothing(t *testing.T) {
	a := spare(tower(20), behindTok)
	kept := whole(a)
	with := []impl.Level{{Toks: a}, {Toks: a}}
	impl.LevelSucc(a, 5)
	impl.LevelJoin(impl.OpMax, a, a)
	impl.LevelJoin(impl.OpSucc, a, a)
	impl.LevelSubst(a, with)
	impl.LevelSubst(a, nil)
	impl.LevelEval(a, nil)
	if !slices.Equal(whole(a), kept) {
		t.Error("a call that failed modified its argument")
	}
}

// What stands behind the length must not decide anything.
func TestNothingBehindTheLengthIsRead(t *testing.T) {
	one := spare([]impl.Tok{{Op: impl.OpZero}}, behindTok)
	if s, ok := impl.LevelSucc(one, 1); !ok || impl.LevelText(s) != "0 s" || impl.LevelOff(one) != 0 {
		t.Error(s, ok)
	}
	if impl.LevelOk(one[:0]) || impl.LevelText(one[:0]) != "" {
		t.Error("an empty list is accepted")
	}
	if _, ok := impl.LevelEval(one, make([]int, impl.MaxParams+1)[:impl.MaxParams-1]); ok {
		t.Error("a short env is accepted")
	}
	with := spare([]impl.Level{{Toks: one}}, impl.Level{Toks: one})
	if _, ok := impl.LevelSubst([]impl.Tok{{Op: impl.OpParam, N: 1}}, with); ok {
		t.Error("an element behind the length of with is used")
	}
}

func TestTwoResultsShareNothing(t *testing.T) {
	l := readLevel(t, "u1 u0 max")
	s1, _ := impl.LevelSucc(l, 2)
	s2, _ := impl.LevelSucc(l, 2)
	scribble(s1, scribbleTok)
	r1, _ := impl.LevelRead("u1 u0 max")
	r2, _ := impl.LevelRead("u1 u0 max")
	scribble(r1, scribbleTok)
	p1, p2 := impl.LevelParams(l), impl.LevelParams(l)
	scribble(p1, -7)
	if impl.LevelText(s2) != "u1 u0 max s s" || impl.LevelText(r2) != "u1 u0 max" || !slices.Equal(p2, []int{0, 1}) {
		t.Error(s2, r2, p2)
	}
}

// A refused call leaves nothing behind that a later one could see.
func TestNoStateBetweenCalls(t *testing.T) {
	l := readLevel(t, "u0 s u1 imax")
	for range 3 {
		impl.LevelOk([]impl.Tok{{Op: impl.OpZero}, {Op: impl.OpZero}})
		impl.LevelEval(l, []int{1, 2, 3, 4, impl.MaxNum + 1})
		if v := evalLevel(t, l, []int{3, 2, 0, 0, 0}); v != 4 {
			t.Fatal(v)
		}
	}
}

func TestNoArgumentsPanic(t *testing.T) {
	numbers := []int{math.MinInt, -1, 0, 1, 2, 3, 4, 5, 24, 25, math.MaxInt}
	levels := [][]impl.Tok{nil, {}, tower(24), tower(25), make([]impl.Tok, 100000), slices.Repeat([]impl.Tok{behindTok}, 30)}
	for _, op := range numbers {
		for _, n := range numbers {
			levels = append(levels, []impl.Tok{{Op: op, N: n}})
			levels = append(levels, []impl.Tok{{Op: impl.OpZero}, {Op: impl.OpZero}, {Op: op, N: n}})
		}
	}
	envs := [][]int{nil, {}, numbers, numbers[:5], numbers[2:7], make([]int, 5), make([]int, 100000)}
	withs := [][]impl.Level{nil, {}, {{}}, make([]impl.Level, 100000), {{Toks: tower(24)}}, slices.Repeat([]impl.Level{{Toks: tower(3)}}, 7)}
	for _, l := range levels {
		impl.LevelOk(l)
		impl.LevelParams(l)
		impl.LevelOff(l)
		impl.LevelText(l)
		for _, env := range envs {
			impl.LevelEval(l, env)
		}
		for _, n := range numbers {
			impl.LevelSucc(l, n)
			impl.LevelJoin(n, l, tower(2))
			impl.LevelJoin(n, tower(2), l)
		}
		for _, with := range withs {
			impl.LevelSubst(l, with)
			impl.LevelSubst(tower(2), append(slices.Clone(with), impl.Level{Toks: l}))
		}
	}
	for b := range 256 {
		impl.LevelRead(string([]byte{byte(b)}))
		impl.LevelRead("u" + string([]byte{byte(b)}))
	}
}
