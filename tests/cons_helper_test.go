package tests

import (
	"math"
	"slices"
	"sync"
	"testing"

	"loop.example/g00744/impl"
)

func le(u, v int) impl.Con { return impl.Con{U: u, Rel: impl.RelLe, V: v} }
func lt(u, v int) impl.Con { return impl.Con{U: u, Rel: impl.RelLt, V: v} }
func eq(u, v int) impl.Con { return impl.Con{U: u, Rel: impl.RelEq, V: v} }

// sides are what a constraint can relate: 0, which is written as -1, and the
// parameters.
func sides() []int {
	return []int{-1, 0, 1, 2, 3, 4}
}

func badSides() []int {
	return []int{-2, 5, 6, 31, math.MinInt, math.MaxInt}
}

func allCons() []impl.Con {
	var out []impl.Con
	for _, u := range sides() {
		for _, v := range sides() {
			out = append(out, le(u, v), lt(u, v), eq(u, v))
		}
	}
	return out
}

// badCons have one field that is out of range.
func badCons() []impl.Con {
	var out []impl.Con
	for _, p := range badSides() {
		for _, rel := range []int{impl.RelLe, impl.RelLt, impl.RelEq} {
			out = append(out, impl.Con{U: p, Rel: rel, V: 1}, impl.Con{U: 1, Rel: rel, V: p}, impl.Con{U: p, Rel: rel, V: -1}, impl.Con{U: p, Rel: rel, V: p})
		}
	}
	for _, rel := range []int{-1, 3, 4, math.MinInt, math.MaxInt} {
		out = append(out, impl.Con{Rel: rel, V: 1}, impl.Con{U: -1, Rel: rel, V: -1})
	}
	return out
}

// difference is how much the value of j is greater than that of i.
func difference(env []int, i, j int) int {
	var d int
	if j >= 0 {
		d = env[j]
	}
	if i >= 0 {
		d -= env[i]
	}
	return d
}

func keeps(c impl.Con, env []int) bool {
	d := difference(env, c.U, c.V)
	return [...]bool{impl.RelLe: d >= 0, impl.RelLt: d > 0, impl.RelEq: d == 0}[c.Rel]
}

func keepsAll(list []impl.Con, env []int) bool {
	return !slices.ContainsFunc(list, func(c impl.Con) bool { return !keeps(c, env) })
}

// An envSet has a bit for each of consEnvs.
type envSet []uint64

func (s envSet) has(i int) bool {
	return s[i/64]>>(i%64)&1 == 1
}

func (s envSet) meet(other envSet) envSet {
	out := slices.Clone(s)
	for i := range out {
		out[i] &= other[i]
	}
	return out
}

func (s envSet) meets(other envSet) bool {
	for i := range s {
		if s[i]&other[i] != 0 {
			return true
		}
	}
	return false
}

func (s envSet) within(other envSet) bool {
	for i := range s {
		if s[i]&^other[i] != 0 {
			return false
		}
	}
	return true
}

// Five values that are each greater than another one end at 5. So a list that
// is satisfiable, also together with the opposite of any other constraint or
// with a bound on any one difference, is satisfied by one of these envs.
var consEnvs = sync.OnceValue(func() [][]int { return envsOver(0, 1, 2, 3, 4, 5) })

func envsWhere(in func(env []int) bool) envSet {
	return setOver(consEnvs(), in)
}

// setOver has a bit for each of the envs.
func setOver(envs [][]int, in func(env []int) bool) envSet {
	out := make(envSet, len(envs)/64+1)
	for i, env := range envs {
		if in(env) {
			out[i/64] |= 1 << (i % 64)
		}
	}
	return out
}

var anyEnv = sync.OnceValue(func() envSet { return envsWhere(func([]int) bool { return true }) })

var conEnvs = sync.OnceValue(func() map[impl.Con]envSet {
	out := map[impl.Con]envSet{}
	for _, c := range allCons() {
		out[c] = envsWhere(func(env []int) bool { return keeps(c, env) })
	}
	return out
})

var signEnvs = sync.OnceValue(func() []envSet {
	var out []envSet
	for sign := range signCount {
		out = append(out, envsWhere(hasSign(sign)))
	}
	return out
})

func hasSign(sign int) func(env []int) bool {
	ups := positive(sign)
	return func(env []int) bool {
		for p, up := range ups {
			if up != (env[p] > 0) {
				return false
			}
		}
		return true
	}
}

// A gap is that j is at least i plus width.
type gap struct {
	i, j, width int
}

var gapEnvs = sync.OnceValue(func() map[gap]envSet {
	out := map[gap]envSet{}
	for _, i := range sides() {
		for _, j := range sides() {
			for width := range 7 {
				out[gap{i, j, width}] = envsWhere(func(env []int) bool { return difference(env, i, j) >= width })
			}
		}
	}
	return out
})

// satisfying are the envs in which every constraint of the list holds.
func satisfying(list []impl.Con) envSet {
	out := anyEnv()
	for _, c := range list {
		out = out.meet(conEnvs()[c])
	}
	return out
}

func (s envSet) none() bool {
	return !s.meets(anyEnv())
}

// expectedFar is what ConsFar has to return for a satisfiable list that these
// envs satisfy.
func expectedFar(set envSet, i, j int) int {
	far := -1
	for far < 6 && set.within(gapEnvs()[gap{i, j, far + 1}]) {
		far++
	}
	return far
}

// expectedLeft are the indices that are left when the constraints are
// considered from the first one on, and each one goes without which the others
// that are left are still enough.
func expectedLeft(list []impl.Con, enough func(others []impl.Con, c impl.Con) bool) []int {
	gone := make([]bool, len(list))
	var left []int
	for i, c := range list {
		var others []impl.Con
		for k, other := range list {
			if k != i && !gone[k] {
				others = append(others, other)
			}
		}
		gone[i] = enough(others, c)
		if !gone[i] {
			left = append(left, i)
		}
	}
	return left
}

func consAt(list []impl.Con, indices []int) []impl.Con {
	var out []impl.Con
	for _, i := range indices {
		out = append(out, list[i])
	}
	return out
}

// strides are lists of the given length that go through the constraints in
// steps of several widths, from several places on.
func strides(from []impl.Con, length int) [][]impl.Con {
	var out [][]impl.Con
	for _, step := range []int{1, 5, 7, 13, 29} {
		for start := range 8 {
			var list []impl.Con
			for k := range length {
				list = append(list, from[(start*11+k*step)%len(from)])
			}
			out = append(out, list)
		}
	}
	return out
}

// longLists are lists of three constraints up to MaxCons. Those of one env are
// satisfiable; with one more, from all constraints, they often are not.
func longLists() [][]impl.Con {
	all := allCons()
	var out [][]impl.Con
	for _, length := range []int{3, 4, 6, 9, 14, impl.MaxCons} {
		out = append(out, strides(all, length)...)
	}
	for _, env := range [][]int{{0, 0, 0, 0, 0}, {1, 2, 2, 0, 3}, {5, 4, 3, 2, 1}, {0, 1, 0, 1, 1}, {2, 2, 2, 2, 2}, {3, 1, 4, 1, 5}} {
		kept := slices.DeleteFunc(slices.Clone(all), func(c impl.Con) bool { return !keeps(c, env) })
		for _, length := range []int{3, 5, 8, 12, impl.MaxCons - 1} {
			for i, list := range strides(kept, length) {
				out = append(out, list, append(slices.Clone(list), all[(i*17+length)%len(all)]))
			}
		}
	}
	return out
}

// shortLists are all lists of at most two constraints.
func shortLists() [][]impl.Con {
	out := [][]impl.Con{nil}
	for _, c := range allCons() {
		out = append(out, []impl.Con{c})
		for _, d := range allCons() {
			out = append(out, []impl.Con{c, d})
		}
	}
	return out
}

func conLists() [][]impl.Con {
	return append(shortLists(), longLists()...)
}

// someLists has every list that is long, and one in every of the others.
func someLists(every int) [][]impl.Con {
	var out [][]impl.Con
	for i, list := range shortLists() {
		if i%every == 0 {
			out = append(out, list)
		}
	}
	return append(out, longLists()...)
}

func leastEnv(t *testing.T, list []impl.Con) []int {
	t.Helper()
	env, ok := impl.ConsLeast(list)
	if !ok {
		t.Fatalf("ConsLeast(%v) failed", list)
	}
	return env
}

func thinned(t *testing.T, list []impl.Con) []impl.Con {
	t.Helper()
	out, ok := impl.ConsThin(list)
	if !ok {
		t.Fatalf("ConsThin(%v) failed", list)
	}
	return out
}

// contradictory checks what every function returns for a list that is not
// satisfiable, except for ConsCore.
func contradictory(t *testing.T, list []impl.Con) {
	t.Helper()
	if impl.ConsSat(list) {
		t.Errorf("ConsSat(%v)", list)
	}
	if env, ok := impl.ConsLeast(list); ok || len(env) != 0 {
		t.Errorf("ConsLeast(%v) = %v, %v", list, env, ok)
	}
	if thin, ok := impl.ConsThin(list); ok || len(thin) != 0 {
		t.Errorf("ConsThin(%v) = %v, %v", list, thin, ok)
	}
	if signs := impl.ConsSigns(list); len(signs) != 0 {
		t.Errorf("ConsSigns(%v) = %v", list, signs)
	}
	for _, i := range append(sides(), badSides()...) {
		for _, j := range append(sides(), badSides()...) {
			if far := impl.ConsFar(list, i, j); far != -1 {
				t.Errorf("ConsFar(%v, %d, %d) = %d", list, i, j, far)
			}
		}
	}
	for _, c := range append(append(allCons(), badCons()...), list...) {
		if impl.ConsImply(list, c) {
			t.Errorf("ConsImply(%v, %v)", list, c)
		}
	}
}

// refusedCons checks what every function returns for a list that is not valid.
func refusedCons(t *testing.T, list []impl.Con) {
	t.Helper()
	if impl.ConsOk(list) {
		t.Errorf("ConsOk(%v)", list)
	}
	for _, env := range [][]int{zeroEnv(), {1, 2, 3, 4, 5}, {impl.MaxNum, 0, 0, 0, 0}} {
		if impl.ConsHold(list, env) {
			t.Errorf("ConsHold(%v, %v)", list, env)
		}
	}
	contradictory(t, list)
	if core := impl.ConsCore(list); len(core) != 0 {
		t.Errorf("ConsCore(%v) = %v", list, core)
	}
}
