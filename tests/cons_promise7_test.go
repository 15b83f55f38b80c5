package tests

import (
	"slices"
	"testing"

	"loop.example/g00744/impl"
)

func TestPromise7LeastEnvIsAtMostEverySatisfyingOne(t *testing.T) {
	for _, list := range conLists() {
		set := satisfying(list)
		env, ok := impl.ConsLeast(list)
		if ok == set.none() || impl.ConsSat(list) != ok {
			t.Fatalf("ConsLeast(%v) = %v, %v, and ConsSat is %v", list, env, ok, impl.ConsSat(list))
		}
		if !ok {
			if len(env) != 0 {
				t.Fatalf("ConsLeast(%v) = %v", list, env)
			}
			continue
		}
		if len(env) != 5 || !keepsAll(list, env) || !impl.ConsHold(list, env) {
			t.Fatalf("ConsLeast(%v) = %v", list, env)
		}
		for i, other := range consEnvs() {
			if set.has(i) && !pointwiseAtMost(env, other) {
				t.Fatalf("ConsLeast(%v) = %v, which is not at most %v", list, env, other)
			}
		}
	}
}

func pointwiseAtMost(a, b []int) bool {
	for p, v := range a {
		if v < 0 || v > b[p] {
			return false
		}
	}
	return true
}

func TestConsHoldIsEachConstraint(t *testing.T) {
	for _, c := range allCons() {
		for _, env := range consEnvs() {
			if impl.ConHolds(c, env) != keeps(c, env) {
				t.Fatalf("ConHolds(%v, %v) = %v", c, env, !keeps(c, env))
			}
		}
	}
	envs := envsOver(0, 1, 3, impl.MaxNum)
	for _, list := range someLists(97) {
		for _, env := range envs {
			if impl.ConsHold(list, env) != keepsAll(list, env) {
				t.Fatalf("ConsHold(%v, %v) = %v", list, env, !keepsAll(list, env))
			}
		}
	}
}

// A satisfying env that shows that a difference is not kept is among those of
// the oracle, and becomes one with arbitrarily large values if it is multiplied.
func TestPromise7FarIsExactlyWhatIsImplied(t *testing.T) {
	for _, list := range someLists(4) {
		set := satisfying(list)
		for _, i := range sides() {
			for _, j := range sides() {
				want := -1
				if !set.none() {
					want = expectedFar(set, i, j)
				}
				if far := impl.ConsFar(list, i, j); far != want {
					t.Fatalf("ConsFar(%v, %d, %d) = %d, want %d", list, i, j, far, want)
				}
			}
		}
	}
}

func TestPromise7GreatValuesKeepTheDistances(t *testing.T) {
	envs := envsOver(0, 1, 2, 999, 1000, 1<<40)
	for _, list := range someLists(499) {
		kept := slices.DeleteFunc(slices.Clone(envs), func(env []int) bool { return !keepsAll(list, env) })
		for _, i := range sides() {
			for _, j := range sides() {
				far := impl.ConsFar(list, i, j)
				if slices.ContainsFunc(kept, func(env []int) bool { return far >= 0 && difference(env, i, j) < far }) {
					t.Fatalf("ConsFar(%v, %d, %d) = %d", list, i, j, far)
				}
			}
		}
	}
}

func TestPromise7DistancesAddUpAlongPaths(t *testing.T) {
	for _, list := range someLists(11) {
		if satisfying(list).none() {
			continue
		}
		for _, i := range sides() {
			if impl.ConsFar(list, i, i) != 0 || impl.ConsFar(list, -1, i) < 0 {
				t.Fatalf("ConsFar(%v) of %d and itself, or from 0", list, i)
			}
			for _, j := range sides() {
				first := impl.ConsFar(list, i, j)
				for _, k := range sides() {
					second := impl.ConsFar(list, j, k)
					if first >= 0 && second >= 0 && impl.ConsFar(list, i, k) < first+second {
						t.Fatalf("ConsFar(%v) from %d to %d is less than through %d", list, i, k, j)
					}
				}
			}
		}
	}
}

// The least value of a parameter is its distance from 0.
func TestPromise7LeastEnvIsTheDistanceFromZero(t *testing.T) {
	for _, list := range someLists(7) {
		env, ok := impl.ConsLeast(list)
		for p := range env {
			if ok && impl.ConsFar(list, -1, p) != env[p] {
				t.Fatalf("ConsFar(%v, -1, %d) = %d, and the least env is %v", list, p, impl.ConsFar(list, -1, p), env)
			}
		}
	}
}

func TestPromise7ImplyIsEverySatisfyingEnv(t *testing.T) {
	all := allCons()
	for _, list := range someLists(9) {
		set := satisfying(list)
		for _, c := range all {
			want := !set.none() && set.within(conEnvs()[c])
			if impl.ConsImply(list, c) != want {
				t.Fatalf("ConsImply(%v, %v) = %v", list, c, !want)
			}
		}
	}
}

func TestPromise7ImplyIsADistance(t *testing.T) {
	for _, list := range someLists(101) {
		for _, u := range sides() {
			for _, v := range sides() {
				there, back := impl.ConsFar(list, u, v), impl.ConsFar(list, v, u)
				if impl.ConsImply(list, le(u, v)) != (there >= 0) || impl.ConsImply(list, lt(u, v)) != (there >= 1) ||
					impl.ConsImply(list, eq(u, v)) != (there == 0 && back == 0) {
					t.Fatalf("ConsImply(%v) of %d and %d, with distances %d and %d", list, u, v, there, back)
				}
			}
		}
	}
}

func TestPromise7CoreIsMinimal(t *testing.T) {
	cores := 0
	for _, list := range conLists() {
		core := impl.ConsCore(list)
		if !satisfying(list).none() {
			if len(core) != 0 {
				t.Fatalf("ConsCore(%v) = %v", list, core)
			}
			continue
		}
		cores++
		want := expectedLeft(list, func(others []impl.Con, _ impl.Con) bool { return satisfying(others).none() })
		if !slices.Equal(core, want) {
			t.Fatalf("ConsCore(%v) = %v, want %v", list, core, want)
		}
		checkCore(t, consAt(list, core))
	}
	if cores < 1000 {
		t.Error("few of the lists are not satisfiable:", cores)
	}
}

func checkCore(t *testing.T, core []impl.Con) {
	t.Helper()
	if impl.ConsSat(core) || !satisfying(core).none() {
		t.Fatalf("the core %v is satisfiable", core)
	}
	for subset := range 1<<len(core) - 1 {
		var part []impl.Con
		for i, c := range core {
			if subset>>i&1 == 1 {
				part = append(part, c)
			}
		}
		if !impl.ConsSat(part) || satisfying(part).none() {
			t.Fatalf("the part %v of the core %v is not satisfiable", part, core)
		}
	}
}

func TestPromise7ThinListImpliesAll(t *testing.T) {
	thinner := 0
	for _, list := range conLists() {
		thin, ok := impl.ConsThin(list)
		if ok == satisfying(list).none() || !ok && len(thin) != 0 {
			t.Fatalf("ConsThin(%v) = %v, %v", list, thin, ok)
		}
		if !ok {
			continue
		}
		for _, c := range list {
			if !impl.ConsImply(thin, c) || !satisfying(thin).within(conEnvs()[c]) {
				t.Fatalf("ConsThin(%v) = %v, which does not imply %v", list, thin, c)
			}
		}
		want := consAt(list, expectedLeft(list, func(others []impl.Con, c impl.Con) bool {
			return satisfying(others).within(conEnvs()[c])
		}))
		if !slices.Equal(thin, want) {
			t.Fatalf("ConsThin(%v) = %v, want %v", list, thin, want)
		}
		checkThin(t, thin)
		if len(thin) < len(list) {
			thinner++
		}
	}
	if thinner < 1000 {
		t.Error("few of the lists become thinner:", thinner)
	}
}

func checkThin(t *testing.T, thin []impl.Con) {
	t.Helper()
	for i, c := range thin {
		if impl.ConsImply(slices.Delete(slices.Clone(thin), i, i+1), c) {
			t.Fatalf("%v is implied by the others of %v", c, thin)
		}
	}
	if again := thinned(t, thin); !slices.Equal(again, thin) {
		t.Fatalf("ConsThin(%v) = %v", thin, again)
	}
}

func TestPromise7SignsAreThoseOfSatisfyingEnvs(t *testing.T) {
	for _, list := range someLists(5) {
		var want []int
		set := satisfying(list)
		for sign := range signCount {
			if set.meets(signEnvs()[sign]) {
				want = append(want, sign)
			}
		}
		if signs := impl.ConsSigns(list); !slices.Equal(signs, want) {
			t.Fatalf("ConsSigns(%v) = %v, want %v", list, signs, want)
		}
	}
}

func TestPromise7EachPossibleSignHasItsLeastEnv(t *testing.T) {
	for _, list := range someLists(61) {
		if len(list) > impl.MaxCons-impl.MaxParams {
			continue
		}
		signs := impl.ConsSigns(list)
		for sign := range signCount {
			env, ok := impl.ConsLeast(withSign(list, sign))
			if ok != slices.Contains(signs, sign) {
				t.Fatalf("ConsSigns(%v) = %v, and the least env of the sign %d is %v", list, signs, sign, env)
			}
			if ok && (impl.SignOf(env) != sign || !impl.ConsHold(list, env)) {
				t.Fatalf("the least env of %v with the sign %d is %v", list, sign, env)
			}
		}
	}
}

func withSign(list []impl.Con, sign int) []impl.Con {
	out := slices.Clone(list)
	for p, up := range positive(sign) {
		c := eq(p, -1)
		if up {
			c = lt(-1, p)
		}
		out = append(out, c)
	}
	return out
}
