package tests

import (
	"slices"
	"testing"

	"loop.example/g00744/impl"
)

func TestPromise8LeUnderIsAtomUnderOfEveryAtom(t *testing.T) {
	fewCases(5, func(c underCase) {
		for _, p := range c.pairs {
			a, b := p.levels()
			if le := everyAtomUnder(t, c.list, a, b); impl.LeUnder(c.list, a, b) != le {
				t.Fatalf("LeUnder(%v, %v, %v) = %v", c.list, a, b, !le)
			}
		}
	})
}

func everyAtomUnder(t *testing.T, list []impl.Con, a, b []impl.Tok) bool {
	t.Helper()
	for _, sign := range impl.ConsSigns(list) {
		n := residual(t, b, sign)
		for _, x := range residual(t, a, sign) {
			if !impl.AtomUnder(list, sign, x, n) {
				return false
			}
		}
	}
	return true
}

type twoAtoms struct {
	x, y impl.Atom
}

// atomsAboveAtoms has, for each two of the atoms, the envs in which the first
// one is greater.
func atomsAboveAtoms(atoms []impl.Atom) map[twoAtoms]envSet {
	var rows []row
	for _, x := range atoms {
		rows = append(rows, atomRow(x))
	}
	out := map[twoAtoms]envSet{}
	for i, x := range atoms {
		for j, y := range atoms {
			out[twoAtoms{x, y}] = rows[i].above(0, rows[j])
		}
	}
	return out
}

func TestPromise8AtomUnderIsEveryEnvOfTheSign(t *testing.T) {
	atoms := atomsOver([]int{-1, 0, 1, 2, 3, 4}, []int{0, 1, 2, 3, 5})
	above := atomsAboveAtoms(atoms)
	lists := atomLists(atoms, 1)
	for i, n := range increasingLists([]int{-1, 0, 1, 2, 3, 4}, []int{0, 1, 3}) {
		if i%97 == 0 {
			lists = append(lists, n)
		}
	}
	yes, no := 0, 0
	for i, list := range underLists() {
		r := realmOf(list)
		for sign, set := range r.signs {
			for k := (i + sign) % 3; k < len(atoms); k += 3 {
				for _, n := range lists {
					want := r.atomUnder(sign, set, atoms[k], n, above)
					if impl.AtomUnder(list, sign, atoms[k], n) != want {
						t.Fatalf("AtomUnder(%v, %d, %v, %v) = %v", list, sign, atoms[k], n, !want)
					}
					if want {
						yes++
					} else {
						no++
					}
				}
			}
		}
	}
	if yes < 5000 || no < 5000 {
		t.Error("few answers of one kind:", yes, no)
	}
}

func (r realm) atomUnder(sign int, set envSet, x impl.Atom, n []impl.Atom, above map[twoAtoms]envSet) bool {
	if !r.admits(sign) || !isResid([]impl.Atom{x}, sign) || !isResid(n, sign) {
		return false
	}
	for _, y := range n {
		set = set.meet(above[twoAtoms{x, y}])
	}
	return !set.meets(anyWide())
}

func TestPromise8MoreConstraintsNeverCompareLess(t *testing.T) {
	all, news := allCons(), 0
	fewCases(41, func(c underCase) {
		for k, p := range c.pairs {
			a, b := p.levels()
			le := impl.LeUnder(c.list, a, b)
			for i := k % 5; i < len(all); i += 5 {
				more := withCon(c.list, all[i])
				if len(more) > impl.MaxCons {
					continue
				}
				now := impl.LeUnder(more, a, b)
				if le && !now {
					t.Fatalf("LeUnder(%v, %v, %v) is false, and true without the last constraint", more, a, b)
				}
				if le {
					noWitness(t, more, a, b)
				}
				if now && !le {
					news++
				}
			}
		}
	})
	if news < 100 {
		t.Error("few comparisons become true:", news)
	}
}

func TestPromise8ImpliedConstraintsChangeNothing(t *testing.T) {
	all, changes := allCons(), 0
	fewCases(83, func(c underCase) {
		if c.small.none() {
			return
		}
		for _, p := range c.pairs {
			a, b := p.levels()
			le := impl.LeUnder(c.list, a, b)
			env, ok := impl.Witness(c.list, a, b)
			for _, extra := range all {
				more := withCon(c.list, extra)
				if len(more) > impl.MaxCons || !c.small.within(conEnvs()[extra]) {
					continue
				}
				changes++
				again, okAgain := impl.Witness(more, a, b)
				if impl.LeUnder(more, a, b) != le || ok != okAgain || !slices.Equal(env, again) {
					t.Fatalf("%v changes the comparison of %v and %v under %v", extra, a, b, c.list)
				}
			}
		}
	})
	if changes < 1000 {
		t.Error("few constraints are implied:", changes)
	}
}

func TestPromise8AParameterIsZeroOrPositive(t *testing.T) {
	split := 0
	fewCases(13, func(c underCase) {
		if len(c.list) == impl.MaxCons {
			return
		}
		for _, p := range c.pairs {
			a, b := p.levels()
			le := impl.LeUnder(c.list, a, b)
			for q := range impl.MaxParams {
				zero := impl.LeUnder(withCon(c.list, impl.Con{U: q, V: -1}), a, b)
				positive := impl.LeUnder(withCon(c.list, lt(-1, q)), a, b)
				if le != (zero && positive) {
					t.Fatalf("LeUnder(%v, %v, %v) = %v, but %v where u%d is 0 and %v where it is positive", c.list, a, b, le, zero, q, positive)
				}
				if zero != positive {
					split++
				}
			}
		}
	})
	if split < 500 {
		t.Error("few comparisons depend on the sign of one parameter:", split)
	}
}

// renamed puts the parameter to for the parameter from.
func renamed(l []impl.Tok, from, to int) []impl.Tok {
	out := slices.Clone(l)
	for i, tok := range out {
		if tok.Op == impl.OpParam && tok.N == from {
			out[i].N = to
		}
	}
	return out
}

func TestPromise8EqualParametersCanBeExchanged(t *testing.T) {
	for i, list := range underLists() {
		for _, two := range []struct{ p, q int }{{0, 1}, {1, 0}, {2, 0}, {4, 3}, {1, 4}} {
			for _, same := range [][]impl.Con{{eq(two.p, two.q)}, {le(two.p, two.q), le(two.q, two.p)}} {
				equal := slices.Concat(list, same)
				for _, pair := range somePairs(i*11+two.p, 61) {
					checkExchange(t, equal, pair, two.p, two.q)
				}
			}
		}
	}
}

func checkExchange(t *testing.T, list []impl.Con, pair pair, p, q int) {
	t.Helper()
	a, b := pair.levels()
	otherA, otherB := renamed(a, p, q), renamed(b, p, q)
	if !impl.EqUnder(list, a, otherA) || !impl.EqUnder(list, otherB, b) {
		t.Fatalf("u%d for u%d changes %v or %v under %v", q, p, a, b, list)
	}
	le := impl.LeUnder(list, a, b)
	if impl.LeUnder(list, otherA, b) != le || impl.LeUnder(list, a, otherB) != le || impl.LeUnder(list, otherA, otherB) != le {
		t.Fatalf("u%d for u%d changes the comparison of %v and %v under %v", q, p, a, b, list)
	}
	if !le && !slices.Equal(witness(t, list, a, b), witness(t, list, a, otherB)) {
		t.Fatalf("u%d for u%d changes the witness against %v and %v under %v", q, p, a, b, list)
	}
}

// sidesRelated asks for the levels of its sides what a constraint states.
func sidesRelated(list []impl.Con, c impl.Con) bool {
	a, b := sideToks(c.U), sideToks(c.V)
	switch c.Rel {
	case impl.RelLt:
		return impl.LeUnder(list, append(a, impl.Tok{Op: impl.OpSucc}), b)
	case impl.RelEq:
		return impl.EqUnder(list, a, b)
	}
	return impl.LeUnder(list, a, b)
}

// A list that is not satisfiable implies nothing, but relates everything.
func TestPromise8AConstraintIsImpliedIfItsSidesAreRelated(t *testing.T) {
	all := allCons()
	for i, list := range fewLists() {
		none := satisfying(list).none()
		for k := i % 4; k < len(all); k += 4 {
			c := all[k]
			related, implied := sidesRelated(list, c), impl.ConsImply(list, c)
			if related != (implied || none) || implied && none {
				t.Fatalf("%v under %v: the levels are related: %v, and it is implied: %v", c, list, related, implied)
			}
		}
	}
}

func substitutes(t *testing.T) [][]impl.Level {
	t.Helper()
	return [][]impl.Level{
		levelList(t, "u0", "u1", "u2", "u3", "u4"),
		levelList(t, "u1", "u0 s", "u0 u1 max", "0 s", "u2 u0 imax"),
		levelList(t, "0", "0 s s", "u3", "u3 s", "u4 s u3 imax s"),
		levelList(t, "u0 u1 imax", "u1 u0 imax", "0", "u4 0 imax", "u0 u1 max s"),
	}
}

// The pairs hold for the values of an env exactly if the list holds for the
// values of the levels that were put for its parameters.
func TestPairsStateOfLevelsWhatTheListStates(t *testing.T) {
	envs := envsOver(0, 1, 3)
	kept := 0
	for _, with := range substitutes(t) {
		for _, list := range someLists(397) {
			pairs := pairsOf(t, list, with)
			for i := len(list) % 7; i < len(envs); i += 7 {
				var values []int
				for _, l := range with {
					values = append(values, treeOf(l.Toks).value(envs[i]))
				}
				want := keepsAll(list, values)
				if pairsHold(pairs, envs[i]) != want {
					t.Fatalf("ConsSubst(%v, %v) = %v, and %v in %v", list, with, pairs, !want, envs[i])
				}
				if want {
					kept++
				}
			}
		}
	}
	if kept < 1000 {
		t.Error("few lists hold:", kept)
	}
}

func pairsHold(pairs []impl.Pair, env []int) bool {
	for _, p := range pairs {
		a, b := treeOf(p.A).value(env), treeOf(p.B).value(env)
		if a > b || p.Less && a == b {
			return false
		}
	}
	return true
}

func TestPairsUnderIsEveryPair(t *testing.T) {
	fewCases(29, func(c underCase) {
		for _, p := range c.pairs {
			a, b := p.levels()
			le, less := !c.wide.meets(underAbove()[p.a][p.b]), !c.wide.meets(underRows()[p.a].above(1, underRows()[p.b]))
			less = less && len(a) < impl.MaxLevel
			first, second := impl.Pair{A: a, B: b}, impl.Pair{A: a, Less: true, B: b}
			if impl.PairsUnder(c.list, []impl.Pair{first}) != le || impl.PairsUnder(c.list, []impl.Pair{second}) != less {
				t.Fatalf("PairsUnder of %v and %v under %v", a, b, c.list)
			}
			// Each pair counts, wherever it stands.
			fine := slices.Repeat([]impl.Pair{{A: a, B: a}}, 3)
			for at := range 4 {
				if impl.PairsUnder(c.list, slices.Insert(slices.Clone(fine), at, first)) != le {
					t.Fatalf("PairsUnder of %v and %v as number %d under %v", a, b, at, c.list)
				}
			}
		}
	})
}

// With each parameter for itself, a list states what it implies.
func TestPairsOfTheParametersThemselves(t *testing.T) {
	with := substitutes(t)[0]
	all := allCons()
	for i, list := range fewLists() {
		if !impl.PairsUnder(list, pairsOf(t, list, with)) {
			t.Fatalf("the pairs of %v do not hold under it", list)
		}
		none := satisfying(list).none()
		for k := i % 6; k < len(all); k += 6 {
			pairs := pairsOf(t, []impl.Con{all[k]}, with)
			if impl.PairsUnder(list, pairs) != (none || impl.ConsImply(list, all[k])) {
				t.Fatalf("the pairs of %v under %v", all[k], list)
			}
		}
	}
}

func TestPromise7SignEnvIsTheLeastOfItsSign(t *testing.T) {
	for _, list := range append(underLists(), someLists(53)...) {
		signs := impl.ConsSigns(list)
		r := realm{list: list, small: satisfying(list)}
		for sign := range signCount {
			if r.admits(sign) != slices.Contains(signs, sign) {
				t.Fatalf("ConsSigns(%v) = %v", list, signs)
			}
			if !r.admits(sign) {
				noSignEnv(t, list, sign)
				continue
			}
			env := signEnv(t, list, sign)
			if !slices.Equal(env, r.leastOf(sign)) || impl.SignOf(env) != sign || !keepsAll(list, env) {
				t.Fatalf("SignEnv(%v, %d) = %v, not %v", list, sign, env, r.leastOf(sign))
			}
			if len(list) <= impl.MaxCons-impl.MaxParams && !slices.Equal(env, leastEnv(t, withSign(list, sign))) {
				t.Fatalf("SignEnv(%v, %d) = %v is not the least env of the signed list", list, sign, env)
			}
		}
	}
}

// The least env of a list is the one of its first sign.
func TestPromise7LeastEnvIsThatOfTheFirstSign(t *testing.T) {
	for _, list := range append(underLists(), someLists(53)...) {
		if signs := impl.ConsSigns(list); len(signs) > 0 && !slices.Equal(signEnv(t, list, signs[0]), leastEnv(t, list)) {
			t.Fatalf("SignEnv(%v, %d) = %v", list, signs[0], signEnv(t, list, signs[0]))
		}
	}
}
