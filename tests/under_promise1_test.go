package tests

import (
	"slices"
	"testing"

	"loop.example/g00744/impl"
)

func TestWitnessExample(t *testing.T) {
	env := witness(t, []impl.Con{lt(0, 1)}, readLevel(t, "u1"), readLevel(t, "u0 s s"))
	if !slices.Equal(env, []int{0, 200, 0, 0, 0}) {
		t.Error(env)
	}
}

func TestPromise1EitherLeUnderOrAWitness(t *testing.T) {
	related, witnesses := 0, 0
	underCases(func(c underCase) {
		for _, p := range c.pairs {
			a, b := p.levels()
			want := !c.wide.meets(underAbove()[p.a][p.b])
			if impl.LeUnder(c.list, a, b) != want {
				t.Fatalf("LeUnder(%v, %v, %v) = %v", c.list, a, b, !want)
			}
			if want {
				related++
				noWitness(t, c.list, a, b)
				continue
			}
			witnesses++
			env := witness(t, c.list, a, b)
			checkWitness(t, c.realm, p, env)
			if expected, ok := c.expectedWitness(t, p); !ok || !slices.Equal(env, expected) {
				t.Fatalf("Witness(%v, %v, %v) = %v, not %v", c.list, a, b, env, expected)
			}
		}
	})
	if related < 5000 || witnesses < 5000 {
		t.Error("few comparisons of one kind:", related, witnesses)
	}
}

// checkWitness checks what holds for a witness whatever sign and atom it is for.
func checkWitness(t *testing.T, r realm, p pair, env []int) {
	t.Helper()
	a, b := p.levels()
	if len(env) != 5 || !keepsAll(r.list, env) || !impl.ConsHold(r.list, env) {
		t.Fatalf("Witness(%v, %v, %v) = %v, which does not satisfy the list", r.list, a, b, env)
	}
	if treeOf(a).value(env) <= treeOf(b).value(env) || evalLevel(t, a, env) <= evalLevel(t, b, env) {
		t.Fatalf("Witness(%v, %v, %v) = %v is none", r.list, a, b, env)
	}
	least := leastEnv(t, r.list)
	for q, v := range env {
		if v < least[q] || v > impl.Peak+impl.MaxParams {
			t.Fatalf("Witness(%v, %v, %v) = %v is out of bounds", r.list, a, b, env)
		}
		if v != 0 && r.small.within(conEnvs()[eq(q, -1)]) {
			t.Fatalf("Witness(%v, %v, %v) = %v, where u%d must be 0", r.list, a, b, env, q)
		}
	}
}

func TestPromise1EqUnderIsLeUnderBothWays(t *testing.T) {
	equal := 0
	fewCases(5, func(c underCase) {
		for _, p := range c.pairs {
			a, b := p.levels()
			want := !c.wide.meets(underAbove()[p.a][p.b]) && !c.wide.meets(underAbove()[p.b][p.a])
			if impl.EqUnder(c.list, a, b) != want || impl.EqUnder(c.list, b, a) != want {
				t.Fatalf("EqUnder(%v, %v, %v) is not %v", c.list, a, b, want)
			}
			if want {
				equal++
			}
		}
	})
	if equal < 100 {
		t.Error("few levels are equal:", equal)
	}
}

// The chapter admits values that no env has.
func TestPromise1GreatValuesKeepTheOrder(t *testing.T) {
	great := envsOver(0, 1, 999, 1000, 1<<40)
	for i, list := range underLists() {
		kept := slices.DeleteFunc(slices.Clone(great), func(env []int) bool { return !keepsAll(list, env) })
		for _, p := range somePairs(i, 13) {
			a, b := p.levels()
			if impl.LeUnder(list, a, b) && !allAtMost(treeValues(a, kept), 0, treeValues(b, kept)) {
				t.Fatalf("LeUnder(%v, %v, %v)", list, a, b)
			}
		}
	}
	// No env has a value of more than MaxNum, but that is no constraint.
	if impl.LeUnder([]impl.Con{lt(0, 1), lt(1, 2)}, readLevel(t, "u0"), readLevel(t, "u3")) {
		t.Error("the bound of an env is a constraint")
	}
}

func TestPromise6LeUnderNoConstraintsIsLevelLe(t *testing.T) {
	levels := append(signLevels(t)[:16], shortLevels(3)...)
	levels = append(levels, underLevels()...)
	for i, a := range levels {
		for j, b := range levels {
			if (i+j)%3 != 0 {
				continue
			}
			le := impl.LevelLe(a, b)
			if impl.LeUnder(nil, a, b) != le || impl.EqUnder(nil, a, b) != impl.LevelEq(a, b) {
				t.Fatalf("LeUnder or EqUnder of %v and %v without constraints", a, b)
			}
			if le {
				noWitness(t, nil, a, b)
				continue
			}
			want := counter(t, a, b)
			for q, v := range want {
				if v == 100 {
					want[q] = impl.Peak
				}
			}
			if env := witness(t, nil, a, b); !slices.Equal(env, want) || treeOf(a).value(env) <= treeOf(b).value(env) {
				t.Fatalf("Witness(nil, %v, %v) = %v, not %v", a, b, env, want)
			}
		}
	}
}

func TestPromise6LevelLeHoldsUnderEveryList(t *testing.T) {
	fewCases(3, func(c underCase) {
		for _, p := range c.pairs {
			a, b := p.levels()
			if impl.LevelLe(a, b) && !impl.LeUnder(c.list, a, b) || impl.LevelEq(a, b) && !impl.EqUnder(c.list, a, b) {
				t.Fatalf("%v and %v are not related under %v", a, b, c.list)
			}
			if env, ok := impl.Witness(c.list, a, b); ok && impl.LevelLe(a, b) {
				t.Fatalf("Witness(%v, %v, %v) = %v", c.list, a, b, env)
			}
		}
	})
}
