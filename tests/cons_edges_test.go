package tests

import (
	"fmt"
	"math"
	"slices"
	"testing"

	"loop.example/g00744/impl"
)

func TestTheEmptyListOfConstraints(t *testing.T) {
	for _, list := range [][]impl.Con{nil, {}} {
		if !impl.ConsOk(list) || !impl.ConsSat(list) || !impl.ConsHold(list, []int{0, 1, 2, 3, impl.MaxNum}) {
			t.Error("the empty list is refused")
		}
		if env := leastEnv(t, list); !slices.Equal(env, zeroEnv()) {
			t.Error("ConsLeast", env)
		}
		if signs := impl.ConsSigns(list); len(signs) != signCount || signs[0] != 0 || signs[signCount-1] != impl.MaxSign {
			t.Error("ConsSigns", signs)
		}
		if core := impl.ConsCore(list); len(core) != 0 {
			t.Error("ConsCore", core)
		}
		if thin := thinned(t, list); len(thin) != 0 {
			t.Error("ConsThin", thin)
		}
		for _, i := range sides() {
			for _, j := range sides() {
				want := -1
				if i == j || i == -1 {
					want = 0
				}
				if far := impl.ConsFar(list, i, j); far != want {
					t.Errorf("ConsFar from %d to %d is %d", i, j, far)
				}
				if impl.ConsImply(list, lt(i, j)) || impl.ConsImply(list, le(i, j)) != (want == 0) || impl.ConsImply(list, eq(i, j)) != (i == j) {
					t.Errorf("ConsImply for %d and %d", i, j)
				}
			}
		}
	}
}

func TestListsAtTheLimit(t *testing.T) {
	list := slices.Repeat([]impl.Con{le(0, 1), lt(-1, 0), eq(3, 2)}, impl.MaxCons/3)
	if len(list) != 24 || !impl.ConsOk(list) || !impl.ConsSat(list) || !impl.ConsHold(list, []int{1, 1, 0, 0, 0}) {
		t.Error("a list of MaxCons constraints is refused")
	}
	if env := leastEnv(t, list); !slices.Equal(env, []int{1, 1, 0, 0, 0}) || impl.ConsFar(list, -1, 1) != 1 || !impl.ConsImply(list, eq(2, 3)) {
		t.Error("a list of MaxCons constraints:", env)
	}
	if signs := impl.ConsSigns(list); !slices.Equal(signs, []int{3, 15, 19, 31}) {
		t.Error("ConsSigns", signs)
	}
	if thin := thinned(t, list); !slices.Equal(thin, []impl.Con{le(0, 1), lt(-1, 0), eq(3, 2)}) {
		t.Error("ConsThin", thin)
	}
	refusedCons(t, append(slices.Clone(list), le(0, 0)))
	refusedCons(t, slices.Repeat([]impl.Con{le(0, 0)}, 1000))

	bad := slices.Clone(list)
	bad[23] = lt(1, 0)
	contradictory(t, bad)
	if core := impl.ConsCore(bad); !slices.Equal(core, []int{21, 23}) {
		t.Error("ConsCore", core)
	}
	refusedCons(t, append(bad, lt(1, 0)))
}

func TestConstraintsThatAreNotValid(t *testing.T) {
	for _, c := range allCons() {
		if !impl.ConOk(c) || !impl.ConsOk([]impl.Con{c}) {
			t.Errorf("%v is refused", c)
		}
	}
	for _, c := range badCons() {
		if impl.ConOk(c) {
			t.Errorf("ConOk(%v)", c)
		}
		for _, env := range [][]int{zeroEnv(), {1, 2, 3, 4, 5}, {5, 4, 3, 2, 1}} {
			if impl.ConHolds(c, env) {
				t.Errorf("ConHolds(%v, %v)", c, env)
			}
		}
		for _, list := range [][]impl.Con{nil, {lt(0, 1), le(2, 2)}} {
			if impl.ConsImply(list, c) {
				t.Errorf("ConsImply(%v, %v)", list, c)
			}
		}
		refusedCons(t, []impl.Con{c})
		for at := range 3 {
			refusedCons(t, slices.Insert([]impl.Con{lt(0, 1), le(1, 2)}, at, c))
			refusedCons(t, slices.Insert([]impl.Con{lt(0, 1), le(1, 0)}, at, c))
		}
	}
}

func TestConstraintsOnZero(t *testing.T) {
	for p := range impl.MaxParams {
		for _, c := range []impl.Con{le(p, -1), eq(p, -1), eq(-1, p)} {
			list := []impl.Con{c}
			if env := leastEnv(t, list); !slices.Equal(env, zeroEnv()) || impl.ConsFar(list, p, -1) != 0 || impl.ConsFar(list, -1, p) != 0 {
				t.Errorf("%v: %v", c, env)
			}
			if signs := impl.ConsSigns(list); len(signs) != 16 || slices.ContainsFunc(signs, func(sign int) bool { return positive(sign)[p] }) {
				t.Errorf("ConsSigns(%v) = %v", c, signs)
			}
			for q := range impl.MaxParams {
				if !impl.ConsImply(list, le(p, q)) || impl.ConsFar(list, p, q) != 0 || impl.ConsImply(list, eq(p, q)) != (p == q) {
					t.Errorf("%v does not bound %d by %d", c, p, q)
				}
			}
		}
		contradictory(t, []impl.Con{lt(p, -1)})
		if core := impl.ConsCore([]impl.Con{lt(p, -1)}); !slices.Equal(core, []int{0}) {
			t.Error("ConsCore", core)
		}
		env := zeroEnv()
		env[p] = 1
		if got := leastEnv(t, []impl.Con{lt(-1, p)}); !slices.Equal(got, env) {
			t.Errorf("0 < u%d: %v", p, got)
		}
		if thin := thinned(t, []impl.Con{le(-1, p), lt(-1, p), le(-1, -1), eq(p, p)}); !slices.Equal(thin, []impl.Con{lt(-1, p)}) {
			t.Error("ConsThin", thin)
		}
	}
	if !impl.ConsSat([]impl.Con{le(-1, -1), eq(-1, -1)}) || !impl.ConsHold([]impl.Con{le(-1, -1), eq(-1, -1)}, zeroEnv()) {
		t.Error("0 is not 0")
	}
	contradictory(t, []impl.Con{lt(-1, -1)})
	if core := impl.ConsCore([]impl.Con{le(0, 1), lt(-1, -1), lt(0, 0)}); !slices.Equal(core, []int{2}) {
		t.Error("ConsCore", core)
	}
}

func TestParametersRelatedToThemselves(t *testing.T) {
	for _, p := range sides() {
		list := []impl.Con{le(p, p), eq(p, p)}
		if env := leastEnv(t, list); !slices.Equal(env, zeroEnv()) || len(impl.ConsSigns(list)) != signCount || len(thinned(t, list)) != 0 {
			t.Errorf("%v: %v", list, env)
		}
		contradictory(t, []impl.Con{lt(p, p)})
		contradictory(t, []impl.Con{le(p, p), eq(p, p), lt(p, p)})
		if core := impl.ConsCore([]impl.Con{le(p, p), lt(p, p), eq(p, p)}); !slices.Equal(core, []int{1}) {
			t.Error("ConsCore", core)
		}
		for _, other := range sides() {
			if impl.ConsImply([]impl.Con{le(p, p)}, lt(other, other)) || !impl.ConsImply([]impl.Con{le(p, p)}, eq(other, other)) {
				t.Errorf("%d is related to itself", other)
			}
		}
	}
}

// cycleOf relates each of the places to the next one, and the last one to the
// first one.
func cycleOf(places []int, rel func(i int) int) []impl.Con {
	var out []impl.Con
	for i, u := range places {
		out = append(out, impl.Con{U: u, Rel: rel(i), V: places[(i+1)%len(places)]})
	}
	return out
}

// paths are the lists of different sides, of each length and in many orders.
func paths() [][]int {
	var out [][]int
	for _, step := range []int{1, 2, 3, 4} {
		var around []int
		for k := range impl.MaxParams {
			around = append(around, k*step%impl.MaxParams)
		}
		for length := 1; length <= impl.MaxParams; length++ {
			for start := range impl.MaxParams {
				path := slices.Concat(around[start:], around[:start])[:length]
				out = append(out, path, slices.Insert(slices.Clone(path), length/2, -1))
			}
		}
	}
	return out
}

func TestCyclesWithoutLess(t *testing.T) {
	for _, path := range paths() {
		for equal := range 1 << len(path) {
			list := cycleOf(path, func(i int) int { return impl.RelEq * (equal >> i & 1) })
			if env := leastEnv(t, list); !slices.Equal(env, zeroEnv()) || len(impl.ConsCore(list)) != 0 {
				t.Fatalf("ConsLeast(%v) = %v", list, env)
			}
			for _, u := range path {
				for _, v := range path {
					if impl.ConsFar(list, u, v) != 0 || !impl.ConsImply(list, eq(u, v)) {
						t.Fatalf("ConsFar(%v, %d, %d)", list, u, v)
					}
				}
			}
			checkThin(t, thinned(t, list))
			checkCycleSigns(t, list, path)
		}
	}
}

// checkCycleSigns checks that the parameters of a cycle are all 0 or all
// positive, and 0 if the cycle runs through 0.
func checkCycleSigns(t *testing.T, list []impl.Con, path []int) {
	t.Helper()
	var want []int
	for sign := range signCount {
		ups := 0
		for _, p := range path {
			if p >= 0 && positive(sign)[p] {
				ups++
			}
		}
		if ups == 0 || ups == len(path) {
			want = append(want, sign)
		}
	}
	if signs := impl.ConsSigns(list); !slices.Equal(signs, want) {
		t.Fatalf("ConsSigns(%v) = %v, want %v", list, signs, want)
	}
}

func TestCyclesWithLess(t *testing.T) {
	for _, path := range paths() {
		for less := range path {
			for _, rel := range []int{impl.RelLe, impl.RelLt, impl.RelEq} {
				list := cycleOf(path, func(i int) int {
					if i == less {
						return impl.RelLt
					}
					return rel
				})
				contradictory(t, list)
				core := impl.ConsCore(list)
				checkCore(t, consAt(list, core))
				// Only 0 is related to the parameters without a constraint.
				if !slices.Contains(path, -1) && len(core) != len(list) {
					t.Fatalf("ConsCore(%v) = %v", list, core)
				}
			}
		}
	}
}

// Without its last constraint, a cycle is a chain. A chain begins with 0, or 0
// is not in it.
func TestChainsOfLess(t *testing.T) {
	for _, path := range paths() {
		if at := slices.Index(path, -1); at > 0 {
			path = slices.Concat([]int{-1}, path[:at], path[at+1:])
		}
		list := cycleOf(path, func(int) int { return impl.RelLt })[:len(path)-1]
		env := leastEnv(t, list)
		if thin := thinned(t, list); !slices.Equal(thin, list) {
			t.Fatalf("ConsThin(%v) = %v", list, thin)
		}
		for i, u := range path {
			if u >= 0 && env[u] != i {
				t.Fatalf("ConsLeast(%v) = %v", list, env)
			}
			for j, v := range path {
				want := j - i
				if want < 0 {
					want = -1
				}
				if far := impl.ConsFar(list, u, v); far != want {
					t.Fatalf("ConsFar(%v, %d, %d) = %d", list, u, v, far)
				}
			}
		}
	}
	longest := []impl.Con{lt(3, 0), lt(-1, 4), lt(1, 3), lt(4, 2), lt(2, 1)}
	if env := leastEnv(t, longest); !slices.Equal(env, []int{5, 3, 2, 4, 1}) || impl.ConsFar(longest, -1, 0) != 5 {
		t.Error("ConsLeast", env)
	}
	if signs := impl.ConsSigns(longest); !slices.Equal(signs, []int{impl.MaxSign}) {
		t.Error("ConsSigns", signs)
	}
}

func TestRepeatedConstraints(t *testing.T) {
	once := []impl.Con{lt(0, 1)}
	list := slices.Repeat(once, 5)
	if env := leastEnv(t, list); !slices.Equal(env, []int{0, 1, 0, 0, 0}) || impl.ConsFar(list, 0, 1) != 1 || !slices.Equal(impl.ConsSigns(list), impl.ConsSigns(once)) {
		t.Error(env)
	}
	if thin := thinned(t, list); !slices.Equal(thin, once) {
		t.Error("ConsThin", thin)
	}
	// The last one of several equal ones is left, since the first ones go first.
	thin := thinned(t, []impl.Con{lt(0, 1), le(2, 3), le(0, 1), lt(0, 1), eq(1, 4), eq(4, 1)})
	if !slices.Equal(thin, []impl.Con{le(2, 3), lt(0, 1), eq(4, 1)}) {
		t.Error("ConsThin", thin)
	}
	core := impl.ConsCore([]impl.Con{lt(0, 1), le(1, 0), lt(0, 1), le(2, 3), le(1, 0)})
	if !slices.Equal(core, []int{2, 4}) {
		t.Error("ConsCore", core)
	}
	// Both of two constraints on the same sides count, in either order.
	for _, list := range [][]impl.Con{{lt(0, 1), le(0, 1)}, {le(0, 1), lt(0, 1)}} {
		if impl.ConsFar(list, 0, 1) != 1 || !slices.Equal(thinned(t, list), once) {
			t.Error(list)
		}
	}
}

func TestFarOfExamples(t *testing.T) {
	list := []impl.Con{lt(-1, 0), lt(0, 1), le(1, 2)}
	for _, x := range []struct{ i, j, far int }{
		{0, 2, 1}, {-1, 2, 2}, {-1, 0, 1}, {-1, 1, 2}, {-1, 3, 0}, {0, 1, 1}, {1, 2, 0}, {2, 1, -1}, {2, 0, -1},
		{0, 3, -1}, {3, 0, -1}, {3, 4, -1}, {0, -1, -1}, {3, -1, -1}, {-1, -1, 0}, {0, 0, 0}, {4, 4, 0},
	} {
		if far := impl.ConsFar(list, x.i, x.j); far != x.far {
			t.Errorf("ConsFar from %d to %d is %d, not %d", x.i, x.j, far, x.far)
		}
	}
	for _, bad := range badSides() {
		for _, good := range append(sides(), bad) {
			if impl.ConsFar(list, bad, good) != -1 || impl.ConsFar(list, good, bad) != -1 || impl.ConsFar(nil, bad, good) != -1 {
				t.Errorf("ConsFar of %d and %d", bad, good)
			}
		}
	}
}

// The longer of two paths counts, wherever its constraints stand.
func TestTheLongerPathCounts(t *testing.T) {
	list := []impl.Con{le(0, 3), lt(2, 3), lt(0, 1), lt(1, 2), eq(3, 4)}
	for i := range list {
		turned := slices.Concat(list[i:], list[:i])
		if impl.ConsFar(turned, 0, 4) != 3 || impl.ConsFar(turned, 4, 3) != 0 || impl.ConsFar(turned, 3, 0) != -1 {
			t.Error(turned)
		}
		if env := leastEnv(t, turned); !slices.Equal(env, []int{0, 1, 2, 3, 3}) {
			t.Error("ConsLeast", env)
		}
	}
}

func TestConstraintsAtTheBoundOfAnEnv(t *testing.T) {
	top := []int{impl.MaxNum, impl.MaxNum, impl.MaxNum - 1, 0, 1}
	for _, c := range []impl.Con{eq(0, 1), le(0, 1), lt(2, 0), le(2, 1), lt(-1, 0), eq(3, -1), le(3, -1), lt(3, 4), le(4, 4), lt(-1, 4)} {
		if !impl.ConHolds(c, top) || !impl.ConsHold([]impl.Con{c}, top) {
			t.Errorf("%v does not hold in %v", c, top)
		}
	}
	for _, c := range []impl.Con{lt(0, 1), eq(0, 2), le(1, 2), le(0, -1), lt(3, -1), lt(-1, 3), eq(-1, 4), lt(0, 0)} {
		if impl.ConHolds(c, top) || impl.ConsHold([]impl.Con{eq(0, 1), c}, top) || impl.ConsHold([]impl.Con{c, eq(0, 1)}, top) {
			t.Errorf("%v holds in %v", c, top)
		}
	}
	for _, env := range badEnvs() {
		for _, c := range []impl.Con{le(-1, -1), le(-1, 0), eq(0, 0), le(0, 1), eq(-1, 2)} {
			if impl.ConHolds(c, env) || impl.ConsHold([]impl.Con{c}, env) {
				t.Errorf("%v holds in %v", c, env)
			}
		}
		if impl.ConsHold(nil, env) {
			t.Errorf("the empty list holds in %v", env)
		}
	}
}

// The values of an env have a bound, but it implies nothing.
func TestTheBoundOfAnEnvImpliesNothing(t *testing.T) {
	list := []impl.Con{lt(0, 1), lt(1, 2)}
	top := []int{impl.MaxNum, impl.MaxNum, impl.MaxNum, 0, 0}
	if impl.ConsHold(list, top) || impl.ConsImply(list, le(0, 3)) || impl.ConsImply(list, lt(0, 3)) || impl.ConsFar(list, 0, 3) != -1 {
		t.Error("a bound is implied")
	}
}

func TestContradictionsImplyNothing(t *testing.T) {
	for _, list := range [][]impl.Con{{lt(0, 1), le(1, 0)}, {lt(3, -1)}, {eq(0, 1), lt(-1, 0), le(1, -1)}, {lt(2, 2), le(0, 1)}} {
		contradictory(t, list)
		if !impl.ConsOk(list) {
			t.Errorf("ConsOk(%v)", list)
		}
	}
}

func TestCoresOfExamples(t *testing.T) {
	for _, x := range []struct {
		list []impl.Con
		core string
	}{
		{[]impl.Con{lt(0, 1), le(1, 2), lt(-1, 0), le(3, 3), le(2, 0)}, "[0 1 4]"},
		{[]impl.Con{lt(0, 1), lt(1, 0), lt(2, 3), lt(3, 2)}, "[2 3]"},
		{[]impl.Con{lt(0, 0), lt(1, 1), lt(2, 2)}, "[2]"},
		{[]impl.Con{lt(-1, 0), eq(0, 1), eq(1, 2), eq(2, 3), eq(3, 4), le(4, -1)}, "[0 1 2 3 4 5]"},
		{[]impl.Con{lt(0, -1), le(4, 4)}, "[0]"},
		{[]impl.Con{lt(0, 1), le(1, 2)}, "[]"},
	} {
		if core := impl.ConsCore(x.list); fmt.Sprint(core) != x.core {
			t.Errorf("ConsCore(%v) = %v, want %s", x.list, core, x.core)
		}
	}
}

func TestThinListsOfExamples(t *testing.T) {
	for _, x := range []struct{ list, thin []impl.Con }{
		{[]impl.Con{lt(0, 1), le(1, 2), lt(-1, 0), le(0, 2), le(-1, 4)}, []impl.Con{lt(0, 1), le(1, 2), lt(-1, 0)}},
		{[]impl.Con{eq(0, 1), le(0, 1), le(1, 0)}, []impl.Con{le(0, 1), le(1, 0)}},
		{[]impl.Con{le(0, 1), le(1, 0), eq(0, 1)}, []impl.Con{eq(0, 1)}},
		{[]impl.Con{le(0, 2), le(0, 1), le(1, 2)}, []impl.Con{le(0, 1), le(1, 2)}},
		{[]impl.Con{lt(0, 2), le(0, 1), le(1, 2)}, []impl.Con{lt(0, 2), le(0, 1), le(1, 2)}},
		{[]impl.Con{eq(0, -1), le(0, 3), eq(3, -1)}, []impl.Con{le(0, 3), eq(3, -1)}},
	} {
		if thin := thinned(t, x.list); !slices.Equal(thin, x.thin) {
			t.Errorf("ConsThin(%v) = %v, want %v", x.list, thin, x.thin)
		}
	}
}

func TestNoConstraintPanics(t *testing.T) {
	numbers := []int{math.MinInt, math.MinInt + 1, -2, -1, 0, 1, 2, 3, 4, 5, math.MaxInt - 1, math.MaxInt}
	lists := [][]impl.Con{nil, {}, make([]impl.Con, 100000), slices.Repeat([]impl.Con{lt(0, 0)}, impl.MaxCons+1)}
	for _, u := range numbers {
		for _, rel := range numbers {
			for _, v := range numbers {
				c := impl.Con{U: u, Rel: rel, V: v}
				lists = append(lists, []impl.Con{c}, []impl.Con{lt(0, 1), c})
				impl.ConsImply([]impl.Con{lt(0, 1)}, c)
			}
		}
	}
	envs := append(badEnvs(), numbers, zeroEnv())
	for _, list := range lists {
		askCons(list)
		for _, env := range envs {
			impl.ConsHold(list, env)
			if len(list) > 0 {
				impl.ConHolds(list[len(list)-1], env)
			}
		}
	}
	for _, i := range numbers {
		for _, j := range numbers {
			impl.ConsFar([]impl.Con{lt(0, 1)}, i, j)
			impl.ConsFar([]impl.Con{{U: i, V: j}}, j, i)
		}
	}
}
