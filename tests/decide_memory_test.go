package tests

import (
	"fmt"
	"math"
	"slices"
	"testing"

	"loop.example/g00744/impl"
)

// compareAll calls every function that compares, in both directions, and
// overwrites what they return.
func compareAll(a, b []impl.Tok) {
	for _, pair := range [][2][]impl.Tok{{a, b}, {b, a}, {a, a}} {
		impl.LevelLe(pair[0], pair[1])
		impl.LevelLess(pair[0], pair[1])
		impl.LevelEq(pair[0], pair[1])
		env, _ := impl.Counter(pair[0], pair[1])
		scribble(env, -7)
	}
}

func TestDecisionsModifyAndShareNothing(t *testing.T) {
	a := spare(readLevel(t, "u0 s 0 imax u1 u2 imax max"), behindTok)
	b := spare(readLevel(t, "0 s s u2 max"), behindTok)
	free := spare(readLevel(t, "u1 u2 imax"), behindTok)
	keptA, keptB, keptFree := whole(a), whole(b), whole(free)

	compareAll(a, b)
	compareAll(a[:3], b)
	for _, l := range [][]impl.Tok{a, b, free, a[:3], a[:0]} {
		impl.LevelConst(l)
		scribble(impl.LevelIdle(l), -7)
		trim, _ := impl.LevelTrim(l)
		scribble(trim, scribbleTok)
	}

	if !slices.Equal(whole(a), keptA) || !slices.Equal(whole(b), keptB) || !slices.Equal(whole(free), keptFree) {
		t.Error("a level was modified or is shared with a result")
	}
}

func TestDecisionsReadNothingBehindTheLength(t *testing.T) {
	one := readLevel(t, "u1")
	l := spare(one, behindTok)
	if !impl.LevelLe(l, one) || impl.LevelLess(one, l) || !impl.LevelEq(l, one) {
		t.Error("a token behind the length is compared")
	}
	noCounter(t, l, one)
	incomparable(t, l[:0], one)
	dead := spare(readLevel(t, "u0 0 imax"), impl.Tok{Op: impl.OpParam, N: 3})
	if !slices.Equal(impl.LevelIdle(dead), []int{0}) || impl.LevelText(trimmed(t, dead)) != "0 0 imax" || impl.LevelConst(dead) != 0 {
		t.Error("a token behind the length is read")
	}
	if impl.LevelConst(dead[:0]) != -1 || impl.LevelConst(dead[:2]) != -1 || len(impl.LevelIdle(dead[:2])) != 0 {
		t.Error("a list that is too short is accepted")
	}
}

func TestTwoDecisionsShareNothing(t *testing.T) {
	a, b := readLevel(t, "u0 u1 imax"), readLevel(t, "u1")
	first, second := counter(t, a, b), counter(t, a, b)
	scribble(first, -7)
	if want := []int{100, 1, 0, 0, 0}; !slices.Equal(second, want) || !slices.Equal(counter(t, a, b), want) {
		t.Error("Counter", second)
	}
	l := readLevel(t, "u0 u3 max 0 imax u1 max")
	first, second = impl.LevelIdle(l), impl.LevelIdle(l)
	scribble(first, -7)
	if want := []int{0, 3}; !slices.Equal(second, want) || !slices.Equal(impl.LevelIdle(l), want) {
		t.Error("LevelIdle", second)
	}
	for text, want := range map[string]string{"u0 u3 max 0 imax u1 max": "0 0 max 0 imax u1 max", "u1 s": "u1 s"} {
		l := readLevel(t, text)
		x, y := trimmed(t, l), trimmed(t, l)
		scribble(x, scribbleTok)
		if impl.LevelText(y) != want || impl.LevelText(trimmed(t, l)) != want || impl.LevelText(l) != text {
			t.Error("LevelTrim", y)
		}
	}
}

// The same memory holds another level each time, so that anything kept for the
// level before would show.
func TestDecisionsKeepNoState(t *testing.T) {
	memory, u1 := readLevel(t, "u0 u1 imax"), readLevel(t, "u1")
	for range 3 {
		for p := range impl.MaxParams {
			for _, op := range []int{impl.OpMax, impl.OpImax} {
				memory[0].N, memory[2].Op = p, op
				if le := impl.LevelLe(memory, u1); le != (p == 1) || impl.LevelEq(u1, memory) != le {
					t.Fatalf("LevelLe(%v, u1) = %v", memory, le)
				}
				if env, ok := impl.Counter(memory, u1); ok == (p == 1) || ok && (env[p] != 100 || env[1] != op-impl.OpMax) {
					t.Fatalf("Counter(%v, u1) = %v", memory, env)
				}
				impl.LevelLe(memory[:2], u1)
				impl.Counter(u1, nil)
			}
		}
	}
}

func TestDecisionsDoNotDependOnTheOrderOfCalls(t *testing.T) {
	levels := append(signLevels(t)[:16], readLevels(t, "0", "u0 0 imax", "u1 u0 0 imax max", "u0 u1 max")...)
	ask := func(a, b []impl.Tok) string {
		env, found := impl.Counter(a, b)
		trim, ok := impl.LevelTrim(a)
		return fmt.Sprint(impl.LevelLe(a, b), impl.LevelLess(a, b), impl.LevelEq(a, b), env, found, trim, ok, impl.LevelIdle(b), impl.LevelConst(a))
	}
	var forward []string
	for _, a := range levels {
		for _, b := range levels {
			forward = append(forward, ask(a, b))
		}
	}
	for i := len(forward) - 1; i >= 0; i-- {
		a, b := levels[i/len(levels)], levels[i%len(levels)]
		if got := ask(a, b); got != forward[i] {
			t.Fatalf("%s for %v and %v, and %s before", got, a, b, forward[i])
		}
	}
}

func TestNoDecisionPanics(t *testing.T) {
	numbers := []int{math.MinInt, -1, 0, 1, 2, 3, 4, 5, 31, 32, math.MaxInt}
	levels := append(badLevels(), make([]impl.Tok, 100000), slices.Repeat([]impl.Tok{behindTok}, 30), tower(impl.MaxLevel), readLevel(t, "u0 u1 imax"))
	for _, op := range numbers {
		for _, n := range numbers {
			levels = append(levels, []impl.Tok{{Op: op, N: n}}, []impl.Tok{{Op: impl.OpParam}, {Op: impl.OpZero}, {Op: op, N: n}})
		}
	}
	sequences(append(goodToks(), badToks()...), 2, func(l []impl.Tok) { levels = append(levels, l) })
	for _, a := range levels {
		impl.LevelIdle(a)
		impl.LevelTrim(a)
		impl.LevelConst(a)
		for _, b := range [][]impl.Tok{nil, {}, tower(impl.MaxLevel), tower(impl.MaxLevel + 1), {{Op: impl.OpParam, N: 5}}} {
			compareAll(a, b)
		}
	}
}
