package tests

import (
	"fmt"
	"slices"
	"testing"

	"loop.example/g00744/impl"
)

func TestResidualExample(t *testing.T) {
	n := residual(t, readLevel(t, "u0 s u1 imax"), 3)
	if !slices.Equal(n, []impl.Atom{{Param: 0, Off: 1}, {Param: 1, Off: 0}}) {
		t.Error(n)
	}
}

func TestPromise5EnvHasExactlyOneSign(t *testing.T) {
	for _, env := range envsOver(0, 1, impl.MaxNum) {
		sign := impl.SignOf(env)
		found := 0
		for other := range signCount {
			has := true
			for p, up := range positive(other) {
				has = has && up == (env[p] > 0)
			}
			if has {
				found++
			}
			if has != (sign == other) {
				t.Fatalf("SignOf(%v) = %d", env, sign)
			}
		}
		if found != 1 {
			t.Fatalf("%v has %d signs", env, found)
		}
		for p, v := range env {
			if impl.SignHas(sign, p) != (v > 0) {
				t.Fatalf("SignHas(%d, %d) = %v for %v", sign, p, v <= 0, env)
			}
		}
	}
}

func TestPromise5SignHasTellsThePositiveParams(t *testing.T) {
	for sign := range signCount {
		for p, up := range positive(sign) {
			if impl.SignHas(sign, p) != up {
				t.Errorf("SignHas(%d, %d) = %v", sign, p, !up)
			}
		}
		for _, env := range envsOf(sign, 1, 2, impl.MaxNum) {
			if impl.SignOf(env) != sign {
				t.Errorf("SignOf(%v) = %d", env, impl.SignOf(env))
			}
		}
	}
}

func TestPromise5LevelIsZeroForAllEnvsOfASignOrForNone(t *testing.T) {
	for sign := range signCount {
		envs := envsOf(sign, 1, 2, impl.MaxNum)
		for _, l := range signLevels(t) {
			x := treeOf(l)
			got := impl.LevelSign(l, sign)
			for _, env := range envs {
				if got != min(x.value(env), 1) {
					t.Fatalf("LevelSign(%v, %d) = %d, but %d for %v", l, sign, got, x.value(env), env)
				}
			}
		}
	}
}

func TestPromise5ResidualHasTheValuesOfTheLevel(t *testing.T) {
	for sign := range signCount {
		envs := envsOf(sign, 1, 2, impl.MaxNum)
		for _, l := range signLevels(t) {
			n := residual(t, l, sign)
			if !isResid(n, sign) || !impl.ResidOk(n, sign) {
				t.Fatalf("Residual(%v, %d) = %v", l, sign, n)
			}
			x := treeOf(l)
			for _, env := range envs {
				if v := evalResid(t, n, env); v != x.value(env) {
					t.Fatalf("Residual(%v, %d) = %v is %d for %v", l, sign, n, v, env)
				}
			}
		}
	}
}

// A level adds at most 23 to a parameter, so that parameters of 1 and of 100
// tell all values of levels apart.
func TestPromise5SameValuesSameResidual(t *testing.T) {
	for sign := range signCount {
		envs := envsOf(sign, 1, 100)
		byValues, byResid := map[string]string{}, map[string]string{}
		for _, l := range signLevels(t) {
			vals, resid := fmt.Sprint(treeValues(l, envs)), fmt.Sprint(residual(t, l, sign))
			if other, ok := byValues[vals]; ok && other != resid {
				t.Fatalf("%v for the sign %d: residuals %s and %s with the same values", l, sign, resid, other)
			}
			if other, ok := byResid[resid]; ok && other != vals {
				t.Fatalf("%v for the sign %d: the residual %s has other values too", l, sign, resid)
			}
			byValues[vals], byResid[resid] = resid, vals
		}
	}
}

// Every list that ResidOk accepts takes part, so that a residual which is not
// canonical shows up next to the one that is.
func TestPromise5NoOtherListIsAResidual(t *testing.T) {
	lists := atomLists(atomsOver([]int{-2, -1, 0, 1, 4, 5}, []int{-1, 0, 1, 2, 3}), 3)
	for _, sign := range []int{0, 1, 2, 3, 16, 19, 28, 31} {
		envs := envsOf(sign, 1, 7)
		found := map[string][]impl.Atom{}
		for _, list := range lists {
			if impl.ResidOk(list, sign) != isResid(list, sign) {
				t.Fatalf("ResidOk(%v, %d) = %v", list, sign, impl.ResidOk(list, sign))
			}
			if !impl.ResidOk(list, sign) {
				continue
			}
			var all []int
			for _, env := range envs {
				all = append(all, evalResid(t, list, env))
			}
			key := fmt.Sprint(all)
			if other, ok := found[key]; ok {
				t.Fatalf("%v and %v have the same values for the sign %d", other, list, sign)
			}
			found[key] = list
		}
	}
}

// exactResidLe compares ResidLe for all pairs with their values for some envs
// of the sign, of which one is to contradict wherever any env does.
func exactResidLe(t *testing.T, resids [][]impl.Atom, values [][]int, sign int) {
	t.Helper()
	if len(resids) == 0 {
		t.Fatalf("no residuals for the sign %d", sign)
	}
	for i, a := range resids {
		for j, b := range resids {
			want := true
			for k, v := range values[i] {
				want = want && v <= values[j][k]
			}
			if impl.ResidLe(a, b, sign) != want {
				t.Fatalf("ResidLe(%v, %v, %d) = %v", a, b, sign, !want)
			}
		}
	}
}

func greatestOf(lists [][]impl.Atom, envs [][]int) [][]int {
	out := make([][]int, len(lists))
	for i, n := range lists {
		for _, env := range envs {
			out[i] = append(out[i], greatest(n, env))
		}
	}
	return out
}

func TestPromise5ResidLeIsExact(t *testing.T) {
	for sign := range signCount {
		resids := residsOver(sign, []int{-1, 0, 1, 4}, []int{0, 1, 2, 3})
		exactResidLe(t, resids, greatestOf(resids, envsOf(sign, 1, 7)), sign)
	}
	resids := residsOver(31, []int{-1, 0, 1, 2, 3, 4}, []int{2, 4})
	exactResidLe(t, resids, greatestOf(resids, envsOf(31, 1, 7)), 31)
	resids = residsOver(12, []int{-1, 2, 3}, []int{0, 1, 2, 3, 4, 5})
	exactResidLe(t, resids, greatestOf(resids, envsOf(12, 1, 9)), 12)
}

// With Offs up to MaxOff the values of parameters that contradict may exceed
// those of an env: the chapter admits arbitrarily large values here.
func TestPromise5ResidLeIsExactForLargeOffs(t *testing.T) {
	for _, sign := range []int{1, 17} {
		resids := residsOver(sign, []int{-1, 0, 4}, []int{0, 1, 2, 998, 999, 1000})
		exactResidLe(t, resids, greatestOf(resids, envsOf(sign, 1, 2, 5000)), sign)
	}
}

func TestPromise5ResidLeOfLevels(t *testing.T) {
	levels := append(shortLevels(4), longLevels(t)...)
	for _, sign := range []int{0, 1, 2, 3, 16, 17, 18, 19, 31} {
		envs := envsOf(sign, 1, 100)
		var resids [][]impl.Atom
		var values [][]int
		for _, l := range levels {
			resids = append(resids, residual(t, l, sign))
			values = append(values, treeValues(l, envs))
		}
		exactResidLe(t, resids, values, sign)
	}
}

func treeValues(l []impl.Tok, envs [][]int) []int {
	x := treeOf(l)
	var out []int
	for _, env := range envs {
		out = append(out, x.value(env))
	}
	return out
}

func TestPromise5SignMergeTellsWhatTheValueDependsOn(t *testing.T) {
	envs := envsOver(0, 1, 50)
	for _, l := range signLevels(t) {
		for p := range impl.MaxParams {
			if want := hasNoInfluence(p, l, envs); impl.SignMerge(l, p) != want {
				t.Fatalf("SignMerge(%v, %d) = %v", l, p, !want)
			}
		}
	}
}

// hasNoInfluence tells whether the level has the same value for each of the
// envs if the parameter p is 0 there.
func hasNoInfluence(p int, l []impl.Tok, envs [][]int) bool {
	x := treeOf(l)
	for _, env := range envs {
		without := slices.Clone(env)
		without[p] = 0
		if x.value(env) != x.value(without) {
			return false
		}
	}
	return true
}
