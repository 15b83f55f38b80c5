package tests

import (
	"math"
	"slices"
	"testing"

	"loop.example/g00744/impl"
)

const signCount = 32

// Which parameters are positive in a sign is found by divisions, unlike the
// program's shifts.
func positive(sign int) []bool {
	out := make([]bool, 5)
	for p := range out {
		out[p] = sign%2 == 1
		sign /= 2
	}
	return out
}

func badSigns() []int {
	return []int{-1, impl.MaxSign + 1, -2, -32, 33, 63, 64, 1 << 40, math.MaxInt, math.MinInt}
}

func badParams() []int {
	return []int{-1, impl.MaxParams, -2, impl.MaxParams + 1, 32, 63, 64, 65, math.MaxInt, math.MinInt}
}

// envsOf are the envs of the sign whose positive parameters are among the values.
func envsOf(sign int, values ...int) [][]int {
	out := [][]int{nil}
	for _, up := range positive(sign) {
		choice := []int{0}
		if up {
			choice = values
		}
		var next [][]int
		for _, e := range out {
			for _, v := range choice {
				next = append(next, append(slices.Clone(e), v))
			}
		}
		out = next
	}
	return out
}

// isResid checks a list against the definition of a residual, one pair of
// atoms at a time, unlike the program.
func isResid(n []impl.Atom, sign int) bool {
	if sign < 0 || sign >= signCount {
		return false
	}
	for i, a := range n {
		if !isAtom(a) || a.Param >= 0 && !positive(sign)[a.Param] {
			return false
		}
		for _, b := range n[:i] {
			if b.Param >= a.Param || b.Param == -1 && b.Off-a.Off < 2 {
				return false
			}
		}
	}
	return len(n) > 0
}

// residsOver are all residuals for the sign with the Params, which are
// increasing, and the Offs.
func residsOver(sign int, params []int, offs []int) [][]impl.Atom {
	return slices.DeleteFunc(increasingLists(params, offs), func(n []impl.Atom) bool { return !isResid(n, sign) })
}

func residual(t *testing.T, l []impl.Tok, sign int) []impl.Atom {
	t.Helper()
	n, ok := impl.Residual(l, sign)
	if !ok {
		t.Fatalf("Residual(%v, %d) failed", l, sign)
	}
	return n
}

func evalResid(t *testing.T, n []impl.Atom, env []int) int {
	t.Helper()
	v, ok := impl.ResidEval(n, env)
	if !ok {
		t.Fatalf("ResidEval(%v, %v) failed", n, env)
	}
	return v
}

func number(off int) []impl.Atom {
	return []impl.Atom{{Param: -1, Off: off}}
}

// signLevels has all short levels, and long ones in which OpImax, numbers and
// parameters meet in many ways.
func signLevels(t *testing.T) [][]impl.Tok {
	t.Helper()
	out := readLevels(t,
		"0 s s u0 max u1 imax s u2 imax",
		"0 s s s u0 s max u1 u2 imax imax",
		"u0 u1 u2 imax imax u3 u4 imax imax",
		"u0 u1 imax u2 imax s u3 imax 0 s s max",
		"u0 0 imax s u1 imax",
		"u3 s s u2 u1 0 imax imax s imax",
		"u4 u3 imax u3 u4 imax max",
		"0 s s u0 imax 0 s s s u1 s imax max",
		"u2 u1 u0 s imax imax s s 0 s s s s max",
		"u0 u0 imax u1 u1 imax max 0 s s max s",
	)
	out = append(out, longLevels(t)...)
	return append(out, shortLevels(5)...)
}
