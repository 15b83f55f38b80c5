package tests

import (
	"math"
	"slices"
	"testing"

	"loop.example/g00744/impl"
)

func readLevel(t *testing.T, text string) []impl.Tok {
	t.Helper()
	l, ok := impl.LevelRead(text)
	if !ok {
		t.Fatalf("LevelRead(%q) failed", text)
	}
	return l
}

func readLevels(t *testing.T, texts ...string) [][]impl.Tok {
	t.Helper()
	var out [][]impl.Tok
	for _, text := range texts {
		out = append(out, readLevel(t, text))
	}
	return out
}

func zeroEnv() []int {
	return make([]int, impl.MaxParams)
}

// badEnvs have the wrong length, or one element that is out of range.
func badEnvs() [][]int {
	out := [][]int{nil, {}, {0, 0, 0, 0}, {0, 0, 0, 0, 0, 0}, make([]int, 1000)}
	for p := range impl.MaxParams {
		for _, v := range []int{impl.MaxNum + 1, -1, math.MaxInt, math.MinInt} {
			env := zeroEnv()
			env[p] = v
			out = append(out, env)
		}
	}
	return out
}

func evalLevel(t *testing.T, l []impl.Tok, env []int) int {
	t.Helper()
	v, ok := impl.LevelEval(l, env)
	if !ok {
		t.Fatalf("LevelEval(%v, %v) failed", l, env)
	}
	return v
}

// tower is a level of exactly n tokens.
func tower(n int) []impl.Tok {
	l := []impl.Tok{{Op: impl.OpParam, N: 1}}
	for len(l) < n {
		l = append(l, impl.Tok{Op: impl.OpSucc})
	}
	return l
}

// A tree is read from the last token backwards, unlike the program's stack, so
// that a mistake in one of them does not show up in the other as well.
type tree struct {
	tok  impl.Tok
	a, b *tree
}

func treeBack(l []impl.Tok) (*tree, []impl.Tok) {
	if len(l) == 0 {
		return nil, nil
	}
	tok, rest := l[len(l)-1], l[:len(l)-1]
	if tok.Op == impl.OpParam {
		if tok.N < 0 || tok.N > 4 {
			return nil, nil
		}
		return &tree{tok: tok}, rest
	}
	if tok.N != 0 {
		return nil, nil
	}
	t := &tree{tok: tok}
	switch tok.Op {
	case impl.OpZero:
		return t, rest
	case impl.OpSucc:
		t.b, rest = treeBack(rest)
		if t.b == nil {
			return nil, nil
		}
		return t, rest
	case impl.OpMax, impl.OpImax:
		t.b, rest = treeBack(rest)
		if t.b == nil {
			return nil, nil
		}
		t.a, rest = treeBack(rest)
		if t.a == nil {
			return nil, nil
		}
		return t, rest
	}
	return nil, nil
}

func treeOf(l []impl.Tok) *tree {
	if len(l) > 24 {
		return nil
	}
	t, rest := treeBack(l)
	if len(rest) > 0 {
		return nil
	}
	return t
}

func (t *tree) value(env []int) int {
	switch t.tok.Op {
	case impl.OpParam:
		return env[t.tok.N]
	case impl.OpSucc:
		return t.b.value(env) + 1
	case impl.OpMax:
		return max(t.a.value(env), t.b.value(env))
	case impl.OpImax:
		if t.b.value(env) == 0 {
			return 0
		}
		return max(t.a.value(env), t.b.value(env))
	}
	return 0
}

func goodToks() []impl.Tok {
	return []impl.Tok{
		{Op: impl.OpZero}, {Op: impl.OpSucc}, {Op: impl.OpMax}, {Op: impl.OpImax},
		{Op: impl.OpParam, N: 0}, {Op: impl.OpParam, N: 1}, {Op: impl.OpParam, N: 4},
	}
}

func badToks() []impl.Tok {
	return []impl.Tok{
		{Op: impl.OpZero, N: 1}, {Op: impl.OpSucc, N: -1}, {Op: impl.OpMax, N: 1}, {Op: impl.OpImax, N: 4},
		{Op: impl.OpParam, N: -1}, {Op: impl.OpParam, N: impl.MaxParams}, {Op: -1}, {Op: 5},
	}
}

func badLevels() [][]impl.Tok {
	zero, succ := impl.Tok{Op: impl.OpZero}, impl.Tok{Op: impl.OpSucc}
	greater, guarded := impl.Tok{Op: impl.OpMax}, impl.Tok{Op: impl.OpImax}
	out := [][]impl.Tok{
		nil, {}, {succ}, {greater}, {guarded}, {zero, greater}, {zero, guarded}, {zero, zero}, {succ, zero},
		{zero, zero, {Op: impl.OpImax, N: 1}}, tower(impl.MaxLevel + 1),
	}
	for _, tok := range badToks() {
		out = append(out, []impl.Tok{tok})
	}
	return out
}

// sequences calls visit for every list of at most n of the tokens.
func sequences(toks []impl.Tok, n int, visit func(l []impl.Tok)) {
	var grow func(l []impl.Tok)
	grow = func(l []impl.Tok) {
		visit(l)
		if len(l) == n {
			return
		}
		for _, t := range toks {
			grow(append(slices.Clone(l), t))
		}
	}
	grow(nil)
}

// shortLevels are all levels of at most n good tokens.
func shortLevels(n int) [][]impl.Tok {
	var out [][]impl.Tok
	sequences(goodToks(), n, func(l []impl.Tok) {
		if treeOf(l) != nil {
			out = append(out, l)
		}
	})
	return out
}

func longLevels(t *testing.T) [][]impl.Tok {
	t.Helper()
	out := readLevels(t,
		"u0 s s u1 imax u2 max s u3 u4 s imax imax",
		"u4 u3 imax u2 imax u1 imax u0 imax s s s",
		"u0 u1 imax s u0 u1 imax s imax u2 u2 imax max",
		"0 s u0 imax 0 s s u1 imax max 0 s s s u4 imax max",
		"u0 u0 max u0 max u0 max u0 max u0 max u0 max u0 max u0 max u0 max u0 max u0 imax s",
		"u0 u1 u2 u3 u4 imax imax imax imax u4 u3 u2 u1 u0 max max max max imax",
	)
	return append(out, tower(impl.MaxLevel))
}

// envsOver are all envs whose elements are among the values.
func envsOver(values ...int) [][]int {
	out := [][]int{nil}
	for range impl.MaxParams {
		var next [][]int
		for _, e := range out {
			for _, v := range values {
				next = append(next, append(slices.Clone(e), v))
			}
		}
		out = next
	}
	return out
}
