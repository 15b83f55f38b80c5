package tests

import (
	"slices"
	"testing"

	"loop.example/g00744/impl"
)

// decideLevels has all levels of a few tokens, and long ones in which OpImax,
// numbers and parameters meet in many ways.
func decideLevels(t *testing.T) [][]impl.Tok {
	t.Helper()
	levels := signLevels(t)
	return slices.DeleteFunc(levels, func(l []impl.Tok) bool { return len(l) == 5 })
}

// A level adds at most 23 to a parameter, so that parameters of 0, of 1 and of
// more than 24 contradict wherever any values do. The great ones exceed those
// of an env: the chapter admits arbitrarily large values.
func decideEnvs() [][]int {
	return envsOver(0, 1, 5000)
}

func allValues(levels [][]impl.Tok, envs [][]int) [][]int {
	out := make([][]int, len(levels))
	for i, l := range levels {
		out[i] = treeValues(l, envs)
	}
	return out
}

// allAtMost tells whether each of the values, increased by up, is at most the
// other one for the same env.
func allAtMost(a []int, up int, b []int) bool {
	for i, v := range a {
		if v+up > b[i] {
			return false
		}
	}
	return true
}

func joined(t *testing.T, op int, a, b []impl.Tok) []impl.Tok {
	t.Helper()
	j, ok := impl.LevelJoin(op, a, b)
	if !ok {
		t.Fatalf("no join of %v and %v", a, b)
	}
	return j
}

func counter(t *testing.T, a, b []impl.Tok) []int {
	t.Helper()
	env, ok := impl.Counter(a, b)
	if !ok {
		t.Fatalf("Counter(%v, %v) failed", a, b)
	}
	return env
}

func trimmed(t *testing.T, l []impl.Tok) []impl.Tok {
	t.Helper()
	out, ok := impl.LevelTrim(l)
	if !ok {
		t.Fatalf("LevelTrim(%v) failed", l)
	}
	return out
}

// noCounter checks that Counter returns nothing.
func noCounter(t *testing.T, a, b []impl.Tok) {
	t.Helper()
	if env, ok := impl.Counter(a, b); ok || len(env) != 0 {
		t.Errorf("Counter(%v, %v) = %v, %v", a, b, env, ok)
	}
}

// incomparable checks that two levels, of which one is not valid, are refused
// by every function that compares.
func incomparable(t *testing.T, a, b []impl.Tok) {
	t.Helper()
	if impl.LevelLe(a, b) || impl.LevelLess(a, b) || impl.LevelEq(a, b) {
		t.Errorf("%v and %v are compared", a, b)
	}
	noCounter(t, a, b)
}

// differOnlyFor returns levels of which the first one is greater than the
// second one for some envs of the sign, and for no other env. The sign is not
// 0. The first positive parameter counts in the first level only where all
// positive ones are positive, and in the second one where any other one is.
func differOnlyFor(t *testing.T, sign int) (a, b []impl.Tok) {
	t.Helper()
	var first impl.Tok
	var guards, others []impl.Tok
	for p, up := range positive(sign) {
		tok := impl.Tok{Op: impl.OpParam, N: p}
		switch {
		case !up:
			others = append(others, tok)
		case first.Op != impl.OpParam:
			first = tok
		default:
			guards = append(guards, tok)
		}
	}
	a, b = []impl.Tok{first}, []impl.Tok{{Op: impl.OpZero}}
	for _, g := range guards {
		a = joined(t, impl.OpImax, a, []impl.Tok{g})
		b = joined(t, impl.OpImax, b, []impl.Tok{g})
	}
	for _, q := range others {
		b = joined(t, impl.OpMax, b, joined(t, impl.OpImax, []impl.Tok{first}, []impl.Tok{q}))
	}
	return a, b
}
