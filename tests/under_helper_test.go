package tests

import (
	"slices"
	"sync"
	"testing"

	"loop.example/g00744/impl"
)

// Where a level is greater than another one under a list, it is so in one of
// these envs: with the least values of a sign, which are at most 5; or with one
// great parameter, those that are never less than it as little above it as the
// list admits, which is at most 4, and the least values of all others. A level
// adds at most 23 to a parameter, so that 60 exceeds what a small one becomes.
var wideEnvs = sync.OnceValue(func() [][]int { return envsOver(0, 1, 2, 3, 4, 5, 60, 61, 62, 63, 64) })

var anyWide = sync.OnceValue(func() envSet { return setOver(wideEnvs(), func([]int) bool { return true }) })

var wideCons = sync.OnceValue(func() map[impl.Con]envSet {
	out := map[impl.Con]envSet{}
	for _, c := range allCons() {
		out[c] = setOver(wideEnvs(), func(env []int) bool { return keeps(c, env) })
	}
	return out
})

var wideSigns = sync.OnceValue(func() []envSet {
	var out []envSet
	for sign := range signCount {
		out = append(out, setOver(wideEnvs(), hasSign(sign)))
	}
	return out
})

// A row has the value of a level or of an atom for each of wideEnvs, where none
// exceeds 64 + 23.
type row []uint8

func levelRow(l []impl.Tok) row {
	tree := treeOf(l)
	return rowOf(func(env []int) int { return tree.value(env) })
}

func atomRow(x impl.Atom) row {
	return rowOf(func(env []int) int { return greatest([]impl.Atom{x}, env) })
}

func rowOf(value func(env []int) int) row {
	out := make(row, len(wideEnvs()))
	for i, env := range wideEnvs() {
		out[i] = uint8(value(env))
	}
	return out
}

// above are the wideEnvs in which a, increased by up, is greater than b.
func (a row) above(up uint8, b row) envSet {
	out := make(envSet, len(a)/64+1)
	for i, v := range a {
		if v+up > b[i] {
			out[i/64] |= 1 << (i % 64)
		}
	}
	return out
}

// underLevels has numbers and parameters that differ by little, so that a
// constraint decides, and levels with OpImax and of several atoms.
var underLevels = sync.OnceValue(func() [][]impl.Tok {
	texts := []string{
		"0", "0 s", "0 s s", "0 s s s s", "0 s s s s s s", "u0", "u1", "u2", "u4", "u0 s", "u1 s", "u0 s s", "u3 s s s", "u4 s",
		"u0 u1 max", "u0 s u2 max", "u3 u1 s max", "0 s s u0 max", "0 s s s u1 u2 s max max", "u0 u1 max u2 max u3 max u4 max",
		"u0 u1 imax", "u1 u0 imax", "u2 s u0 imax", "u3 u4 imax s", "0 s u0 imax", "0 s s u1 imax", "0 s s s u2 s imax u3 imax",
		"u0 u1 imax u2 imax", "u0 u1 u2 imax imax", "u4 u3 imax u2 imax u1 imax u0 imax", "u0 u1 imax s u1 u0 imax s max",
		"u0 u0 max u0 max u0 max u0 max u0 max u0 max u0 max u0 max u0 max u0 max u0 imax s",
		"u1 s s s s s s s s s s s s s s s s s s s s s s s",
	}
	var out [][]impl.Tok
	for _, text := range texts {
		l, ok := impl.LevelRead(text)
		if !ok {
			panic(text)
		}
		out = append(out, l)
	}
	return out
})

var underRows = sync.OnceValue(func() []row {
	var out []row
	for _, l := range underLevels() {
		out = append(out, levelRow(l))
	}
	return out
})

// underAbove has, for each two of underLevels, the envs in which the first one
// is greater.
var underAbove = sync.OnceValue(func() [][]envSet {
	var out [][]envSet
	for _, a := range underRows() {
		var sets []envSet
		for _, b := range underRows() {
			sets = append(sets, a.above(0, b))
		}
		out = append(out, sets)
	}
	return out
})

// A pair are two of underLevels, by their indices.
type pair struct {
	a, b int
}

func (p pair) levels() (a, b []impl.Tok) {
	return underLevels()[p.a], underLevels()[p.b]
}

// somePairs has one in every of the pairs, from another one on for each start.
func somePairs(start, every int) []pair {
	n := len(underLevels())
	var out []pair
	for i := start % every; i < n*n; i += every {
		out = append(out, pair{i / n, i % n})
	}
	return out
}

// underLists relate the parameters in many ways: chains and cycles, in both
// directions, with and without less, from 0 and to 0.
func underLists() [][]impl.Con {
	return [][]impl.Con{
		nil,
		{lt(0, 1)},
		{le(0, 1), le(1, 2)},
		{lt(0, 1), lt(1, 2), lt(2, 3), lt(3, 4)},
		{lt(4, 3), lt(3, 2), lt(2, 1), lt(1, 0), lt(-1, 4)},
		{lt(-1, 0), lt(0, 1), le(1, 2)},
		{lt(2, 0), lt(1, 0), le(3, 1)},
		{lt(0, 2), lt(2, 1), le(0, 1), lt(0, 4)},
		{eq(0, 1)},
		{eq(1, 2), eq(2, 0), lt(0, 3), lt(-1, 4)},
		{le(0, 1), le(1, 2), le(2, 0)},
		{lt(-1, 1), le(1, 0)},
		{le(1, -1)},
		{eq(0, -1), lt(1, 2), lt(1, 3)},
		{le(2, 1), le(1, -1), lt(3, 0)},
		{le(-1, 4), le(4, 0), le(0, -1), lt(4, 1)},
		{eq(-1, 0), eq(0, 1), le(2, 1), eq(3, 2), le(4, 3)},
		{lt(0, 1), lt(1, 2), le(2, 0)},
	}
}

// fewLists has underLists and a sample of all others.
func fewLists() [][]impl.Con {
	out := underLists()
	for i, list := range someLists(101) {
		if i%9 == 0 {
			out = append(out, list)
		}
	}
	return out
}

// A realm has what a list admits, found by trying all values.
type realm struct {
	list  []impl.Con
	small envSet // of consEnvs
	wide  envSet // of wideEnvs
	signs []envSet
}

func realmOf(list []impl.Con) realm {
	r := realm{list: list, small: satisfying(list), wide: anyWide()}
	for _, c := range list {
		r.wide = r.wide.meet(wideCons()[c])
	}
	for sign := range signCount {
		r.signs = append(r.signs, r.wide.meet(wideSigns()[sign]))
	}
	return r
}

// admits tells whether an env of the sign satisfies the list.
func (r realm) admits(sign int) bool {
	return r.small.meets(signEnvs()[sign])
}

// leastOf is the least env of a sign that the list admits.
func (r realm) leastOf(sign int) []int {
	out := []int{9, 9, 9, 9, 9}
	set := r.small.meet(signEnvs()[sign])
	for i, env := range consEnvs() {
		if !set.has(i) {
			continue
		}
		for p, v := range env {
			out[p] = min(out[p], v)
		}
	}
	return out
}

// A case of the tests: what a list admits, and levels to compare.
type underCase struct {
	realm
	pairs []pair
}

// underCases has every pair of levels for each of underLists, and a few pairs
// for each of many lists of up to MaxCons constraints.
func underCases(visit func(c underCase)) {
	for _, list := range underLists() {
		visit(underCase{realmOf(list), somePairs(0, 1)})
	}
	for i, list := range someLists(211) {
		visit(underCase{realmOf(list), somePairs(i*5, 179)})
	}
}

// fewCases has a sample of the pairs for each of underLists, and for some others.
func fewCases(every int, visit func(c underCase)) {
	for i, list := range underLists() {
		visit(underCase{realmOf(list), somePairs(i*3, every)})
	}
	for i, list := range longLists() {
		if i%37 == 0 {
			visit(underCase{realmOf(list), somePairs(i, every*4)})
		}
	}
}

type atomOverLevel struct {
	x impl.Atom
	b int
}

var atomsAboveLevels = map[atomOverLevel]envSet{}

// atomAbove are the envs in which x is greater than the level with the index b.
func atomAbove(x impl.Atom, b int) envSet {
	key := atomOverLevel{x, b}
	if atomsAboveLevels[key] == nil {
		atomsAboveLevels[key] = atomRow(x).above(0, underRows()[b])
	}
	return atomsAboveLevels[key]
}

// expectedWitness follows the chapter: the first sign that the list admits, and
// the first atom of the residual of the first level that exceeds the second
// level somewhere in that sign.
func (r realm) expectedWitness(t *testing.T, p pair) ([]int, bool) {
	t.Helper()
	for sign, set := range r.signs {
		if !r.admits(sign) {
			continue
		}
		for _, x := range residual(t, underLevels()[p.a], sign) {
			if set.meets(atomAbove(x, p.b)) {
				return r.witnessFor(sign, x.Param), true
			}
		}
	}
	return nil, false
}

func (r realm) witnessFor(sign, param int) []int {
	env := r.leastOf(sign)
	if param < 0 {
		return env
	}
	set := r.small.meet(signEnvs()[sign])
	for j := range env {
		if far := expectedFar(set, param, j); far >= 0 {
			env[j] = max(env[j], 200+far)
		}
	}
	return env
}

func witness(t *testing.T, list []impl.Con, a, b []impl.Tok) []int {
	t.Helper()
	env, ok := impl.Witness(list, a, b)
	if !ok {
		t.Fatalf("Witness(%v, %v, %v) failed", list, a, b)
	}
	return env
}

func noWitness(t *testing.T, list []impl.Con, a, b []impl.Tok) {
	t.Helper()
	if env, ok := impl.Witness(list, a, b); ok || len(env) != 0 {
		t.Errorf("Witness(%v, %v, %v) = %v, %v", list, a, b, env, ok)
	}
}

func signEnv(t *testing.T, list []impl.Con, sign int) []int {
	t.Helper()
	env, ok := impl.SignEnv(list, sign)
	if !ok {
		t.Fatalf("SignEnv(%v, %d) failed", list, sign)
	}
	return env
}

func noSignEnv(t *testing.T, list []impl.Con, sign int) {
	t.Helper()
	if env, ok := impl.SignEnv(list, sign); ok || len(env) != 0 {
		t.Errorf("SignEnv(%v, %d) = %v, %v", list, sign, env, ok)
	}
}

func pairsOf(t *testing.T, list []impl.Con, with []impl.Level) []impl.Pair {
	t.Helper()
	pairs, ok := impl.ConsSubst(list, with)
	if !ok {
		t.Fatalf("ConsSubst(%v, %v) failed", list, with)
	}
	return pairs
}

func noPairs(t *testing.T, list []impl.Con, with []impl.Level) {
	t.Helper()
	if pairs, ok := impl.ConsSubst(list, with); ok || len(pairs) != 0 {
		t.Errorf("ConsSubst(%v, %v) = %v, %v", list, with, pairs, ok)
	}
}

func levelList(t *testing.T, texts ...string) []impl.Level {
	t.Helper()
	var out []impl.Level
	for _, l := range readLevels(t, texts...) {
		out = append(out, impl.Level{Toks: l})
	}
	return out
}

// withCon is the list with one more constraint.
func withCon(list []impl.Con, c impl.Con) []impl.Con {
	return append(slices.Clone(list), c)
}

// sideToks is the level of a side of a constraint.
func sideToks(p int) []impl.Tok {
	if p < 0 {
		return []impl.Tok{{Op: impl.OpZero}}
	}
	return []impl.Tok{{Op: impl.OpParam, N: p}}
}

// unrelated checks that two levels, or a list, are refused by everything that
// compares.
func unrelated(t *testing.T, list []impl.Con, a, b []impl.Tok) {
	t.Helper()
	if impl.LeUnder(list, a, b) || impl.EqUnder(list, a, b) {
		t.Errorf("%v and %v are compared under %v", a, b, list)
	}
	noWitness(t, list, a, b)
	for _, less := range []bool{false, true} {
		if impl.PairsUnder(list, []impl.Pair{{A: a, Less: less, B: b}}) {
			t.Errorf("PairsUnder of %v and %v under %v", a, b, list)
		}
	}
}
