package tests

import (
	"math"
	"slices"
	"testing"

	"loop.example/g00744/impl"
)

func TestSignsModifyAndShareNothing(t *testing.T) {
	level := spare(readLevel(t, "0 s s s u0 s max u1 imax"), behindTok)
	a := spare([]impl.Atom{{Param: -1, Off: 3}, {Param: 0, Off: 1}}, behindAtom)
	b := spare([]impl.Atom{{Param: 0, Off: 2}, {Param: 1}}, behindAtom)
	env := spare([]int{3, 2, 0, 0, 0}, 9)
	keptLevel, keptA, keptB, keptEnv := whole(level), whole(a), whole(b), whole(env)

	impl.SignOf(env)
	for sign := range signCount {
		impl.LevelSign(level, sign)
		n := residual(t, level, sign)
		scribble(n, scribbleAtom)
		impl.ResidOk(a, sign)
		impl.ResidLe(a, b, sign)
		impl.ResidLe(b, a, sign)
		impl.ResidLe(a, a, sign)
	}
	for p := range impl.MaxParams {
		impl.SignMerge(level, p)
	}
	impl.ResidEval(a, env)
	impl.ResidEval(b, env)
	// Calls that are refused.
	impl.SignOf(env[:4])
	impl.LevelSign(level, -1)
	impl.Residual(level, impl.MaxSign+1)
	impl.Residual(level[:4], 1)
	impl.ResidLe(a, b[:0], 3)
	impl.ResidEval(b, zeroEnv())
	impl.SignMerge(level, impl.MaxParams)

	if !slices.Equal(whole(level), keptLevel) {
		t.Error("a level was modified or is shared with a result")
	}
	if !slices.Equal(whole(a), keptA) || !slices.Equal(whole(b), keptB) {
		t.Error("a residual was modified or is shared with a result")
	}
	if !slices.Equal(whole(env), keptEnv) {
		t.Error("an env was modified")
	}
}

func TestSignsReadNothingBehindTheLength(t *testing.T) {
	n := spare(number(2), behindAtom)
	if !impl.ResidOk(n, 16) || impl.ResidOk(n[:0], 16) || evalResid(t, n, []int{0, 0, 0, 0, 1}) != 2 {
		t.Error("an atom behind the length is read")
	}
	if impl.ResidLe([]impl.Atom{{Param: 4}}, n, 16) || !impl.ResidLe(n, number(2), 16) {
		t.Error("ResidLe reads an atom behind the length")
	}
	l := spare(readLevel(t, "u1"), behindTok)
	if impl.LevelSign(l, 0) != 0 || impl.LevelSign(l[:0], 0) != -1 || !slices.Equal(residual(t, l, 0), number(0)) {
		t.Error("a token behind the length is read")
	}
	if impl.SignMerge(spare(readLevel(t, "0"), impl.Tok{Op: impl.OpParam}), 0) != true {
		t.Error("SignMerge reads a token behind the length")
	}
	if impl.SignOf(make([]int, impl.MaxParams+1)[:impl.MaxParams-1]) != -1 {
		t.Error("a short env has a sign")
	}
	if impl.SignOf(spare([]int{0, 0, 0, 0, 1}, impl.MaxNum+1)) != 16 {
		t.Error("a number behind an env is read")
	}
}

func TestTwoResidualsShareNothing(t *testing.T) {
	cases := map[string][]impl.Atom{
		"0":                            number(0),
		"u2 0 imax":                    number(0),
		"u2 0 s max":                   {{Param: 2}},
		"0 s s s u0 max":               {{Param: -1, Off: 3}, {Param: 0}},
		"0 s s s u0 s max u1 s imax s": {{Param: -1, Off: 4}, {Param: 0, Off: 2}, {Param: 1, Off: 2}},
	}
	for text, want := range cases {
		l := readLevel(t, text)
		first, second := residual(t, l, 31), residual(t, l, 31)
		scribble(first, scribbleAtom)
		if !slices.Equal(second, want) || !slices.Equal(residual(t, l, 31), want) {
			t.Errorf("Residual of %s: %v", text, second)
		}
	}
}

// What was computed once for a sign must not be found again for another level
// of that sign, even where the other level stands in the same memory.
func TestSignsKeepNoState(t *testing.T) {
	memory := readLevel(t, "u0 u1 max")
	for range 3 {
		for _, op := range []int{impl.OpMax, impl.OpImax} {
			for _, p := range []int{0, 1, 2, 3} {
				memory[0].N, memory[2].Op = p, op
				want := []impl.Atom{{Param: min(p, 1)}, {Param: max(p, 1)}}
				if p == 1 {
					want = want[:1]
				}
				if n := residual(t, memory, 31); !slices.Equal(n, want) {
					t.Fatalf("Residual(%v, 31) = %v", memory, n)
				}
				if got, open := impl.LevelSign(memory, 13), op == impl.OpMax && p != 1; (got == 1) != open {
					t.Fatalf("LevelSign(%v, 13) = %d", memory, got)
				}
				for q := range impl.MaxParams {
					if impl.SignMerge(memory, q) != (q != p && q != 1) {
						t.Fatalf("SignMerge(%v, %d)", memory, q)
					}
				}
				impl.Residual(memory, -1)
				impl.SignMerge(memory[:2], 0)
			}
		}
	}
}

func TestSignsDoNotDependOnTheOrderOfCalls(t *testing.T) {
	levels := signLevels(t)[:20]
	type answer struct {
		resid string
		sign  int
		merge bool
	}
	ask := func(l []impl.Tok, sign int) answer {
		toks, _ := impl.NormLevel(residual(t, l, sign))
		return answer{impl.LevelText(toks), impl.LevelSign(l, sign), impl.SignMerge(l, sign%impl.MaxParams)}
	}
	var forward []answer
	for _, l := range levels {
		for sign := range signCount {
			forward = append(forward, ask(l, sign))
		}
	}
	for i := len(forward) - 1; i >= 0; i-- {
		if got := ask(levels[i/signCount], i%signCount); got != forward[i] {
			t.Fatalf("%v for %v and the sign %d, and %v before", got, levels[i/signCount], i%signCount, forward[i])
		}
	}
}

func TestNoSignPanics(t *testing.T) {
	numbers := []int{math.MinInt, -1001, -2, -1, 0, 1, 4, 5, 31, 32, 64, 1000, 1001, math.MaxInt - 1, math.MaxInt}
	lists := [][]impl.Atom{nil, {}, make([]impl.Atom, 100), make([]impl.Atom, 100000)}
	for _, p := range numbers {
		for _, off := range numbers {
			lists = append(lists, []impl.Atom{{Param: p, Off: off}})
			lists = append(lists, []impl.Atom{{Param: -1, Off: off}, {Param: p, Off: 1}})
			lists = append(lists, []impl.Atom{{Param: -1, Off: 1000}, {Param: p, Off: off}})
		}
	}
	envs := [][]int{nil, {}, numbers, numbers[:5], numbers[4:9], {1, 1, 1, 1, 1}, make([]int, 5), make([]int, 100000)}
	for _, env := range envs {
		impl.SignOf(env)
	}
	for _, sign := range numbers {
		for _, p := range numbers {
			impl.SignHas(sign, p)
		}
		for _, n := range lists {
			impl.ResidOk(n, sign)
			impl.ResidLe(n, number(3), sign)
			impl.ResidLe([]impl.Atom{{Param: 0, Off: 3}}, n, sign)
		}
	}
	for _, n := range lists {
		for _, env := range envs {
			impl.ResidEval(n, env)
		}
	}
	sequences(append(goodToks(), badToks()...), 3, func(l []impl.Tok) { askAll(l, numbers) })
	for _, l := range append(badLevels(), make([]impl.Tok, 100000), tower(impl.MaxLevel)) {
		askAll(l, numbers)
	}
}

// askAll calls every function that takes a level.
func askAll(l []impl.Tok, numbers []int) {
	for _, n := range numbers {
		impl.LevelSign(l, n)
		impl.Residual(l, n)
		impl.SignMerge(l, n)
	}
}
