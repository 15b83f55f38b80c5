package tests

import (
	"slices"
	"testing"

	"loop.example/g00744/impl"
)

func TestCounterExample(t *testing.T) {
	env := counter(t, readLevel(t, "u1"), readLevel(t, "u0 s"))
	if !slices.Equal(env, []int{0, 100, 0, 0, 0}) {
		t.Error(env)
	}
}

func TestPromise6ComparisonsHoldExactlyForEveryEnv(t *testing.T) {
	levels := decideLevels(t)
	vals := allValues(levels, decideEnvs())
	for i, a := range levels {
		for j, b := range levels {
			le, less := allAtMost(vals[i], 0, vals[j]), allAtMost(vals[i], 1, vals[j])
			if impl.LevelLe(a, b) != le {
				t.Fatalf("LevelLe(%v, %v) = %v", a, b, !le)
			}
			if impl.LevelLess(a, b) != less {
				t.Fatalf("LevelLess(%v, %v) = %v", a, b, !less)
			}
			if eq := slices.Equal(vals[i], vals[j]); impl.LevelEq(a, b) != eq {
				t.Fatalf("LevelEq(%v, %v) = %v", a, b, !eq)
			}
		}
	}
}

func TestPromise6ComparisonsOfLongerLevels(t *testing.T) {
	longer := slices.DeleteFunc(shortLevels(5), func(l []impl.Tok) bool { return len(l) < 5 })
	others := append(shortLevels(2), readLevels(t, "u0 u1 max", "u0 u1 imax", "u1 s u0 imax", "u4 u0 max u1 max")...)
	envs := decideEnvs()
	vals, limits := allValues(longer, envs), allValues(others, envs)
	for i, a := range longer {
		for j, b := range others {
			if le := allAtMost(vals[i], 0, limits[j]); impl.LevelLe(a, b) != le {
				t.Fatalf("LevelLe(%v, %v) = %v", a, b, !le)
			}
			if ge := allAtMost(limits[j], 0, vals[i]); impl.LevelLe(b, a) != ge {
				t.Fatalf("LevelLe(%v, %v) = %v", b, a, !ge)
			}
		}
	}
}

// expectedCounter follows the chapter: for each sign in turn, each atom of the
// residual of a is compared with b for all envs of the sign that matter.
func expectedCounter(t *testing.T, a, b []impl.Tok) ([]int, bool) {
	t.Helper()
	x := treeOf(b)
	for sign := range signCount {
		for _, atom := range residual(t, a, sign) {
			for _, env := range envsOf(sign, 1, 60) {
				if greatest([]impl.Atom{atom}, env) <= x.value(env) {
					continue
				}
				out := envsOf(sign, 1)[0]
				if atom.Param >= 0 {
					out[atom.Param] = 100
				}
				return out, true
			}
		}
	}
	return nil, false
}

func checkCounter(t *testing.T, a, b []impl.Tok) {
	t.Helper()
	if impl.LevelLe(a, b) {
		noCounter(t, a, b)
		return
	}
	env := counter(t, a, b)
	if evalLevel(t, a, env) <= evalLevel(t, b, env) {
		t.Fatalf("Counter(%v, %v) = %v is none", a, b, env)
	}
	want, ok := expectedCounter(t, a, b)
	if !ok || !slices.Equal(env, want) {
		t.Fatalf("Counter(%v, %v) = %v, not %v", a, b, env, want)
	}
}

func TestPromise6CounterWhereLevelLeDoesNotHold(t *testing.T) {
	levels := append(shortLevels(3), signLevels(t)[:10]...)
	levels = append(levels, longLevels(t)...)
	for _, a := range levels {
		for _, b := range levels {
			checkCounter(t, a, b)
		}
	}
}

func TestPromise6LevelLeIsAPreorder(t *testing.T) {
	levels := append(decideLevels(t)[:40], shortLevels(3)...)
	le := make([][]bool, len(levels))
	for i, a := range levels {
		for _, b := range levels {
			le[i] = append(le[i], impl.LevelLe(a, b))
		}
	}
	for i, a := range levels {
		if !le[i][i] || !impl.LevelEq(a, a) || impl.LevelLess(a, a) {
			t.Fatalf("%v is not equal to itself", a)
		}
		for j := range levels {
			for k := range levels {
				if le[i][j] && le[j][k] && !le[i][k] {
					t.Fatalf("%v, %v and %v: LevelLe is not transitive", a, levels[j], levels[k])
				}
			}
		}
	}
}

func TestPromise6LessAndEqFollowFromLe(t *testing.T) {
	levels := append(shortLevels(3), decideLevels(t)[:17]...)
	for _, a := range levels {
		next, short := impl.LevelSucc(a, 1)
		for _, b := range levels {
			if short && impl.LevelLess(a, b) != impl.LevelLe(next, b) {
				t.Fatalf("LevelLess(%v, %v) is not LevelLe of the successor", a, b)
			}
			if impl.LevelEq(a, b) != (impl.LevelLe(a, b) && impl.LevelLe(b, a)) {
				t.Fatalf("LevelEq(%v, %v) is not LevelLe both ways", a, b)
			}
		}
	}
}

func TestPromise6MaxIsTheLeastUpperBound(t *testing.T) {
	parts := append(shortLevels(2), readLevels(t, "u0 u1 imax", "u1 u0 imax", "u0 u4 max", "u0 0 imax", "u1 u0 s imax", "0 s s u1 imax", "0 s s u1 max")...)
	bounds := append(parts, shortLevels(3)...)
	bounds = append(bounds, readLevels(t, "u0 u1 max u4 max", "u0 u1 max s", "0 s s u0 u1 max max", "u0 u1 imax u1 u0 imax max", "u0 u1 imax u4 max s")...)
	for _, a := range parts {
		for _, b := range parts {
			join := joined(t, impl.OpMax, a, b)
			if !impl.LevelLe(a, join) || !impl.LevelLe(b, join) {
				t.Fatalf("the OpMax of %v and %v is no upper bound", a, b)
			}
			for _, c := range bounds {
				if impl.LevelLe(a, c) && impl.LevelLe(b, c) && !impl.LevelLe(join, c) {
					t.Fatalf("%v and %v are at most %v, but their OpMax is not", a, b, c)
				}
			}
		}
	}
}

func TestPromise6ImaxBesideMax(t *testing.T) {
	zero := readLevel(t, "0")
	levels := append(shortLevels(3), signLevels(t)[:4]...)
	for _, a := range levels {
		for _, b := range shortLevels(3) {
			guarded, greater := joined(t, impl.OpImax, a, b), joined(t, impl.OpMax, a, b)
			if !impl.LevelLe(guarded, greater) || !impl.LevelLe(b, guarded) {
				t.Fatalf("the OpImax of %v and %v is not between the second one and their OpMax", a, b)
			}
			if impl.LevelLess(zero, b) && !impl.LevelEq(guarded, greater) {
				t.Fatalf("the OpImax of %v and the positive %v is not their OpMax", a, b)
			}
			if impl.LevelEq(zero, b) && !impl.LevelEq(guarded, zero) {
				t.Fatalf("the OpImax of %v and %v is not 0", a, b)
			}
		}
	}
}

func TestPromise6IdleParamsHaveNoInfluence(t *testing.T) {
	envs := envsOver(0, 1, 50)
	for _, l := range idleLevels(t) {
		want := slices.DeleteFunc(paramsOf(l), func(p int) bool { return !hasNoInfluence(p, l, envs) })
		if got := impl.LevelIdle(l); !slices.Equal(got, want) {
			t.Fatalf("LevelIdle(%v) = %v, not %v", l, got, want)
		}
	}
}

// idleLevels has levels with and without idle parameters.
func idleLevels(t *testing.T) [][]impl.Tok {
	t.Helper()
	out := readLevels(t,
		"u3 u1 imax 0 imax",
		"u3 s u1 max 0 imax u1 u2 imax max",
		"u4 u3 imax u0 0 imax imax u2 s max",
		"u0 u1 u2 u3 u4 max max max max 0 imax s",
		"u0 u1 u2 0 imax imax imax u3 s u4 imax max",
		"u0 0 imax u0 max",
	)
	return append(out, signLevels(t)...)
}

func TestPromise6TrimLeavesTheValues(t *testing.T) {
	envs := envsOver(0, 1, 50)
	for _, l := range idleLevels(t) {
		trim := trimmed(t, l)
		if !slices.Equal(treeValues(trim, envs), treeValues(l, envs)) || !impl.LevelEq(trim, l) {
			t.Fatalf("LevelTrim(%v) = %v has other values", l, trim)
		}
		idle := impl.LevelIdle(l)
		for i, tok := range l {
			want := tok
			if tok.Op == impl.OpParam && slices.Contains(idle, tok.N) {
				want = impl.Tok{Op: impl.OpZero}
			}
			if len(trim) != len(l) || trim[i] != want {
				t.Fatalf("LevelTrim(%v) = %v", l, trim)
			}
		}
		if len(impl.LevelIdle(trim)) != 0 {
			t.Fatalf("LevelTrim(%v) = %v has idle parameters", l, trim)
		}
	}
}

func TestPromise6ConstIsTheValueForEveryEnv(t *testing.T) {
	envs := envsOver(0, 1, 50)
	for _, l := range idleLevels(t) {
		vals := treeValues(l, envs)
		want := vals[0]
		if slices.Max(vals) != slices.Min(vals) {
			want = -1
		}
		if got := impl.LevelConst(l); got != want {
			t.Fatalf("LevelConst(%v) = %d, not %d", l, got, want)
		}
	}
}

func TestPromise4EqualNormsOfFreeLevels(t *testing.T) {
	levels := slices.DeleteFunc(decideLevels(t), func(l []impl.Tok) bool { return slices.Contains(l, impl.Tok{Op: impl.OpImax}) })
	levels = append(levels, readLevels(t, "u0 s u1 s max", "u0 u1 max s", "0 s u0 s max u1 s max", "u1 u0 u0 s max max", "u0 s u1 max", "0 s s u0 max")...)
	vals := allValues(levels, decideEnvs())
	for i, a := range levels {
		for j, b := range levels {
			same := slices.Equal(normFree(t, a), normFree(t, b))
			if same != slices.Equal(vals[i], vals[j]) || same != impl.LevelEq(a, b) {
				t.Fatalf("%v and %v: the same norm: %v, LevelEq: %v", a, b, same, impl.LevelEq(a, b))
			}
		}
	}
}

func normFree(t *testing.T, l []impl.Tok) []impl.Atom {
	t.Helper()
	n, ok := impl.NormFree(l)
	if !ok {
		t.Fatalf("NormFree(%v) failed", l)
	}
	return n
}
