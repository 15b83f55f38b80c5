package tests

import (
	"slices"
	"testing"

	"loop.example/g00744/impl"
)

// isNorm checks a list against the definition of a norm, one pair of atoms at
// a time, unlike the program.
func isNorm(n []impl.Atom) bool {
	for i, a := range n {
		if !isAtom(a) {
			return false
		}
		for _, b := range n[:i] {
			if b.Param >= a.Param || b.Param == -1 && b.Off <= a.Off {
				return false
			}
		}
	}
	return len(n) > 0
}

func isAtom(a impl.Atom) bool {
	return a.Param >= -1 && a.Param <= 4 && a.Off >= 0 && a.Off <= 1000
}

// greatest is the value of the greatest of the atoms; env may hold any values.
func greatest(list []impl.Atom, env []int) int {
	var values []int
	for _, a := range list {
		if a.Param == -1 {
			values = append(values, a.Off)
		} else {
			values = append(values, a.Off+env[a.Param])
		}
	}
	return slices.Max(values)
}

func normOf(t *testing.T, list ...impl.Atom) []impl.Atom {
	t.Helper()
	n, ok := impl.NormOf(list)
	if !ok {
		t.Fatalf("NormOf(%v) failed", list)
	}
	return n
}

func evalNorm(t *testing.T, n []impl.Atom, env []int) int {
	t.Helper()
	v, ok := impl.NormEval(n, env)
	if !ok {
		t.Fatalf("NormEval(%v, %v) failed", n, env)
	}
	return v
}

func atomsOver(params []int, offs []int) []impl.Atom {
	var out []impl.Atom
	for _, p := range params {
		for _, off := range offs {
			out = append(out, impl.Atom{Param: p, Off: off})
		}
	}
	return out
}

// atomLists are all lists of 1 to n of the atoms.
func atomLists(atoms []impl.Atom, n int) [][]impl.Atom {
	var out [][]impl.Atom
	last := [][]impl.Atom{nil}
	for range n {
		var next [][]impl.Atom
		for _, list := range last {
			for _, a := range atoms {
				next = append(next, append(slices.Clone(list), a))
			}
		}
		out = append(out, next...)
		last = next
	}
	return out
}

// increasingLists are all lists that have, for each of the Params in order, no
// atom or one with one of the Offs.
func increasingLists(params []int, offs []int) [][]impl.Atom {
	lists := [][]impl.Atom{nil}
	for _, p := range params {
		next := slices.Clone(lists)
		for _, list := range lists {
			for _, off := range offs {
				next = append(next, append(slices.Clone(list), impl.Atom{Param: p, Off: off}))
			}
		}
		lists = next
	}
	return lists
}

// normsOver are all norms with the Params, which are increasing, and the Offs.
func normsOver(params []int, offs []int) [][]impl.Atom {
	return slices.DeleteFunc(increasingLists(params, offs), func(n []impl.Atom) bool { return !isNorm(n) })
}

// someNorms has all norms of a few Params with small Offs, and all sets of Params.
func someNorms() [][]impl.Atom {
	small := normsOver([]int{-1, 0, 1, 4}, []int{0, 1, 2, 3})
	return append(small, normsOver([]int{-1, 0, 1, 2, 3, 4}, []int{2, 3})...)
}

// values are those of a norm for each of the envs.
func values(t *testing.T, n []impl.Atom, envs [][]int) []int {
	t.Helper()
	var out []int
	for _, env := range envs {
		out = append(out, evalNorm(t, n, env))
	}
	return out
}

// The differences of Offs of someNorms are at most 3, so that parameters of 0
// and of more than 3 tell all of them apart.
func tellingEnvs() [][]int {
	return envsOver(0, 1, 7)
}
