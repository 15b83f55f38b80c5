package tests

import (
	"math"
	"slices"
	"testing"

	"loop.example/g00744/impl"
)

func TestComparingUnderTheEmptyList(t *testing.T) {
	for _, list := range [][]impl.Con{nil, {}} {
		a, b := readLevel(t, "u0 u1 imax"), readLevel(t, "u0 u1 max")
		if !impl.LeUnder(list, a, b) || impl.LeUnder(list, b, a) || impl.EqUnder(list, a, b) || !impl.EqUnder(list, b, b) {
			t.Error("LeUnder")
		}
		if env := witness(t, list, b, a); !slices.Equal(env, []int{200, 0, 0, 0, 0}) {
			t.Error("Witness", env)
		}
		for sign := range signCount {
			want := zeroEnv()
			for p, up := range positive(sign) {
				if up {
					want[p] = 1
				}
			}
			if env := signEnv(t, list, sign); !slices.Equal(env, want) {
				t.Errorf("SignEnv of %d: %v", sign, env)
			}
		}
		if !impl.AtomUnder(list, 3, impl.Atom{Param: 0}, []impl.Atom{{Param: 0}}) || impl.AtomUnder(list, 3, impl.Atom{Param: 0}, []impl.Atom{{Param: 1, Off: 9}}) {
			t.Error("AtomUnder")
		}
		for _, with := range [][]impl.Level{nil, {{}}, levelList(t, "u0")} {
			if pairs := pairsOf(t, list, with); len(pairs) != 0 {
				t.Error("ConsSubst", pairs)
			}
		}
		if !impl.PairsUnder(list, nil) || !impl.PairsUnder(list, []impl.Pair{}) {
			t.Error("PairsUnder")
		}
	}
}

// refusedUnder checks what every function returns for a list that is not valid.
func refusedUnder(t *testing.T, list []impl.Con) {
	t.Helper()
	for _, a := range readLevels(t, "0", "u0", "u0 s u1 imax") {
		for _, b := range readLevels(t, "0", "u0", "u1 s s") {
			unrelated(t, list, a, b)
		}
		unrelated(t, list, a, nil)
		unrelated(t, list, nil, a)
	}
	for _, sign := range append(badSigns(), 0, 1, 3, impl.MaxSign) {
		noSignEnv(t, list, sign)
		for _, off := range []int{0, 1} {
			if impl.AtomUnder(list, sign, number(off)[0], number(1)) {
				t.Errorf("AtomUnder(%v, %d)", list, sign)
			}
		}
	}
	for _, with := range append(substitutes(t), nil) {
		noPairs(t, list, with)
	}
	if impl.PairsUnder(list, nil) || impl.PairsUnder(list, []impl.Pair{}) {
		t.Errorf("PairsUnder(%v) of no pairs", list)
	}
}

func TestComparingUnderListsThatAreNotValid(t *testing.T) {
	for _, c := range badCons() {
		refusedUnder(t, []impl.Con{c})
	}
	for at := range 3 {
		refusedUnder(t, slices.Insert([]impl.Con{lt(0, 1), le(1, 2)}, at, impl.Con{U: 5}))
		refusedUnder(t, slices.Insert([]impl.Con{lt(0, 1), lt(1, 0)}, at, impl.Con{Rel: 3}))
	}
	refusedUnder(t, slices.Repeat([]impl.Con{le(0, 0)}, impl.MaxCons+1))
	refusedUnder(t, slices.Repeat([]impl.Con{lt(0, 0)}, impl.MaxCons+1))
	refusedUnder(t, make([]impl.Con, 1000))
}

// fullList has MaxCons constraints: u0 < u1 = u2 <= u3, and u4 is 0.
func fullList() []impl.Con {
	return slices.Repeat([]impl.Con{lt(0, 1), eq(1, 2), le(2, 3), le(4, -1)}, impl.MaxCons/4)
}

func TestComparingUnderAListOfMaxCons(t *testing.T) {
	list := fullList()
	if len(list) != 24 {
		t.Fatal(len(list))
	}
	a, b := readLevel(t, "u0 s u4 max"), readLevel(t, "u3")
	if !impl.LeUnder(list, a, b) || impl.LeUnder(list, b, a) || !impl.EqUnder(list, readLevel(t, "u1 u4 imax s"), readLevel(t, "u4 s")) {
		t.Error("LeUnder")
	}
	if env := witness(t, list, b, a); !slices.Equal(env, []int{0, 1, 1, 200, 0}) {
		t.Error("Witness", env)
	}
	if env := witness(t, list, readLevel(t, "u0 s s"), b); !slices.Equal(env, []int{0, 1, 1, 1, 0}) {
		t.Error("Witness", env)
	}
	if env := witness(t, list, readLevel(t, "u0 s s u0 imax"), b); !slices.Equal(env, []int{200, 201, 201, 201, 0}) {
		t.Error("Witness", env)
	}
	// The signed list is longer than MaxCons.
	if env := signEnv(t, list, 15); !slices.Equal(env, []int{1, 2, 2, 2, 0}) {
		t.Error("SignEnv", env)
	}
	if env := signEnv(t, list, 14); !slices.Equal(env, []int{0, 1, 1, 1, 0}) {
		t.Error("SignEnv", env)
	}
	noSignEnv(t, list, impl.MaxSign)
	noSignEnv(t, list, 7)
	if !impl.AtomUnder(list, 15, impl.Atom{Param: 0, Off: 1}, []impl.Atom{{Param: 3}}) || impl.AtomUnder(list, 15, impl.Atom{Param: 0, Off: 2}, []impl.Atom{{Param: 3}}) {
		t.Error("AtomUnder")
	}
	with := substitutes(t)[0]
	pairs := pairsOf(t, list, with)
	if len(pairs) != 30 || !impl.PairsUnder(list, pairs) || impl.PairsUnder(list[:3], pairs) {
		t.Error("ConsSubst", len(pairs))
	}
	refusedUnder(t, append(list, le(0, 0)))
	refusedUnder(t, append(list, lt(0, 0)))
}

// The signed lists of these lists have less than MaxCons constraints, as many,
// and more; the last constraint counts.
func TestSignedListsOfEveryLength(t *testing.T) {
	for length := range impl.MaxCons + 1 {
		list := slices.Repeat([]impl.Con{le(2, 3)}, length)
		if length > 0 {
			list[length-1] = lt(0, 1)
		}
		sign, want := 18, []int{0, 1, 0, 0, 1}
		if length == 0 {
			sign, want = 17, []int{1, 0, 0, 0, 1}
		}
		if env := signEnv(t, list, sign); !slices.Equal(env, want) {
			t.Errorf("SignEnv of %d constraints: %v", length, env)
		}
		if impl.LeUnder(list, readLevel(t, "u0 s"), readLevel(t, "u1")) != (length > 0) {
			t.Errorf("LeUnder with %d constraints", length)
		}
	}
}

// Each sign counts if the list admits it, and only then.
func TestLevelsThatDifferForOneSignOnlyUnderAList(t *testing.T) {
	for sign := 1; sign < signCount; sign++ {
		a, b := differOnlyFor(t, sign)
		if env := witness(t, nil, a, b); impl.LeUnder(nil, a, b) || impl.SignOf(env) != sign {
			t.Errorf("Witness(nil, %v, %v) = %v has not the sign %d", a, b, env, sign)
		}
		for other := range signCount {
			list := withSign(nil, other)
			if impl.LeUnder(list, a, b) != (other != sign) {
				t.Errorf("LeUnder(%v, %v, %v) is %v", list, a, b, other == sign)
			}
		}
		for p, up := range positive(sign) {
			admits, excludes := lt(-1, p), le(p, -1)
			if !up {
				admits, excludes = excludes, admits
			}
			if !impl.LeUnder([]impl.Con{excludes}, a, b) || impl.LeUnder([]impl.Con{admits}, a, b) {
				t.Errorf("%v and %v under a list that decides whether u%d is 0", a, b, p)
			}
			noWitness(t, []impl.Con{excludes}, a, b)
		}
	}
}

func TestComparingUnderContradictions(t *testing.T) {
	full := fullList()
	full[23] = lt(3, 0)
	lists := [][]impl.Con{{lt(0, 0)}, {lt(3, -1)}, {lt(0, 1), lt(1, 0)}, {eq(0, -1), lt(1, 0)}, {le(0, 1), le(1, 2), lt(2, 0), lt(3, 4)}, {lt(-1, -1)}, full}
	levels := append(slices.Clone(underLevels()[:20]), tower(impl.MaxLevel))
	for _, list := range lists {
		for i, a := range levels {
			b := levels[(i*7+3)%len(levels)]
			if !impl.LeUnder(list, a, b) || !impl.EqUnder(list, a, b) || !impl.PairsUnder(list, []impl.Pair{{A: a, B: b}, {A: b, B: a}}) {
				t.Errorf("%v and %v are not related under %v", a, b, list)
			}
			if len(a) < impl.MaxLevel && !impl.PairsUnder(list, []impl.Pair{{A: a, Less: true, B: b}}) {
				t.Errorf("%v is not less than %v under %v", a, b, list)
			}
			noWitness(t, list, a, b)
		}
		for _, bad := range badLevels() {
			unrelated(t, list, bad, levels[0])
			unrelated(t, list, levels[0], bad)
		}
		for _, sign := range append(badSigns(), 0, 1, 2, 15, impl.MaxSign) {
			noSignEnv(t, list, sign)
			if impl.AtomUnder(list, sign, number(0)[0], number(0)) {
				t.Errorf("AtomUnder(%v, %d)", list, sign)
			}
		}
		if !impl.PairsUnder(list, nil) || len(pairsOf(t, list, substitutes(t)[0])) == 0 {
			t.Errorf("the pairs of %v", list)
		}
	}
}

func TestComparingLevelsThatAreNotValidUnderAList(t *testing.T) {
	good := readLevels(t, "0", "u0", "u0 s u1 imax")
	for _, list := range [][]impl.Con{nil, {lt(0, 1)}, {le(0, -1), le(1, -1)}} {
		for _, bad := range badLevels() {
			for _, l := range good {
				unrelated(t, list, bad, l)
				unrelated(t, list, l, bad)
			}
			for _, other := range badLevels() {
				unrelated(t, list, bad, other)
			}
		}
	}
	// A token that is not valid is refused even where it has no influence.
	dead := []impl.Tok{{Op: impl.OpParam, N: impl.MaxParams}, {Op: impl.OpZero}, {Op: impl.OpImax}}
	unrelated(t, nil, dead, good[0])
	unrelated(t, nil, good[0], dead)
}

// zeroLists state in several ways that u1 is 0.
func zeroLists() [][]impl.Con {
	return [][]impl.Con{
		{le(1, -1)}, {eq(1, -1)}, {eq(-1, 1)}, {le(-1, 1), le(1, -1)}, {le(-1, 1), le(1, 3), le(3, -1)},
		{le(1, 2), le(2, -1)}, {eq(1, 4), eq(4, 3), le(3, -1)},
	}
}

func TestParametersThatMustBeZero(t *testing.T) {
	equal := []struct{ a, b string }{
		{"u1", "0"}, {"u1 s", "0 s"}, {"u0 u1 imax", "0"}, {"u0 s u1 imax", "u1"}, {"0 s s u1 imax", "0"}, {"u0 u1 s imax", "u0 0 s max"},
		{"u1 u0 imax", "u0"}, {"u1 u0 max", "u0"}, {"u0 u1 u0 imax imax", "u0"}, {"u1 s s u0 max", "0 s s u0 max"}, {"u0 s u1 imax s", "0 s"},
		{"0 s s s u1 s max", "0 s s s"}, {"u0 u1 u0 max imax", "u0"}, {"u0 u1 0 imax max", "u0"}, {"u0 u0 u1 imax imax s s", "u1 s s"},
	}
	less := []struct {
		a, b string
		env  []int
	}{
		{"0 s", "u1", []int{0, 0, 0, 0, 0}}, {"u1 s", "u1", []int{0, 0, 0, 0, 0}}, {"0 s s", "u1 s", []int{0, 0, 0, 0, 0}},
		{"u1 s s", "u0 s", []int{0, 0, 0, 0, 0}}, {"u0 u1 s imax", "0 s s", []int{200, 0, 0, 0, 0}}, {"u0 u1 max", "u0 u1 imax", []int{200, 0, 0, 0, 0}},
		{"u0 s", "u1 s u0 imax", []int{0, 0, 0, 0, 0}}, {"u0", "u1", []int{200, 0, 0, 0, 0}},
	}
	for _, list := range zeroLists() {
		for _, x := range equal {
			a, b := readLevel(t, x.a), readLevel(t, x.b)
			if !impl.EqUnder(list, a, b) || !impl.LeUnder(list, a, b) || !impl.LeUnder(list, b, a) {
				t.Errorf("%s and %s under %v", x.a, x.b, list)
			}
			noWitness(t, list, a, b)
			noWitness(t, list, b, a)
		}
		for _, x := range less {
			env := witness(t, list, readLevel(t, x.a), readLevel(t, x.b))
			if !slices.Equal(env, x.env) || impl.LeUnder(list, readLevel(t, x.a), readLevel(t, x.b)) {
				t.Errorf("Witness of %s and %s under %v: %v", x.a, x.b, list, env)
			}
		}
	}
}

func TestPositiveParametersBesideOnesThatMustBeZero(t *testing.T) {
	for _, list := range zeroLists() {
		list = append(list, lt(-1, 0))
		if !impl.EqUnder(list, readLevel(t, "u1 s u0 imax"), readLevel(t, "u0")) || !impl.LeUnder(list, readLevel(t, "u1 s"), readLevel(t, "u0")) {
			t.Errorf("u1 is not 0, or u0 not positive, under %v", list)
		}
		if env := witness(t, list, readLevel(t, "u1 s s"), readLevel(t, "u0")); !slices.Equal(env, []int{1, 0, 0, 0, 0}) {
			t.Error("Witness", env)
		}
		if env := witness(t, list, readLevel(t, "u0"), readLevel(t, "u1 s")); !slices.Equal(env, []int{200, 0, 0, 0, 0}) {
			t.Error("Witness", env)
		}
	}
}

func TestSignsUnderParametersThatMustBeZero(t *testing.T) {
	for _, list := range zeroLists() {
		for sign := range signCount {
			if positive(sign)[1] {
				noSignEnv(t, list, sign)
			}
			if impl.AtomUnder(list, sign, impl.Atom{Param: 1}, []impl.Atom{{Param: 1, Off: 5}}) {
				t.Errorf("an atom of a parameter that is 0, under %v", list)
			}
		}
	}
	list := []impl.Con{le(1, -1), lt(-1, 0), lt(0, 2)}
	if env := signEnv(t, list, 5); !slices.Equal(env, []int{1, 0, 2, 0, 0}) {
		t.Error("SignEnv", env)
	}
	// Numbers beside parameters of which some are 0.
	n := []impl.Atom{{Param: 2, Off: 1}}
	if !impl.AtomUnder(list, 5, number(3)[0], n) || impl.AtomUnder(list, 5, number(4)[0], n) || impl.AtomUnder(list, 5, impl.Atom{Param: 2}, number(900)) {
		t.Error("AtomUnder")
	}
}

func TestWitnessesOfExamples(t *testing.T) {
	chain := []impl.Con{lt(-1, 4), lt(4, 3), lt(3, 2), lt(2, 1), lt(1, 0)}
	for _, x := range []struct {
		list []impl.Con
		a, b string
		want []int
	}{
		// The first sign, although another parameter is greater in a later one.
		{[]impl.Con{lt(0, 1)}, "u0 s s", "u1", []int{0, 1, 0, 0, 0}},
		{[]impl.Con{lt(0, 1)}, "u0 u2 max", "u1 s", []int{0, 1, 200, 0, 0}},
		{[]impl.Con{lt(0, 1)}, "u0", "u2 s", []int{200, 201, 0, 0, 0}},
		{[]impl.Con{eq(0, 1)}, "u0", "u2", []int{200, 200, 0, 0, 0}},
		// The first atom, although a later one does not fit either.
		{[]impl.Con{lt(-1, 0), lt(-1, 1)}, "u0 u1 max", "u2", []int{200, 1, 0, 0, 0}},
		{[]impl.Con{lt(-1, 0), lt(-1, 1)}, "u0 u1 max", "u0", []int{1, 200, 0, 0, 0}},
		{[]impl.Con{lt(-1, 0), lt(0, 1)}, "0 s s s s u1 max", "u1 s", []int{1, 2, 0, 0, 0}},
		{[]impl.Con{lt(-1, 0), lt(0, 1)}, "0 s s s u1 max", "u0 s s", []int{1, 200, 0, 0, 0}},
		// What is great raises what is above it, by its distance, and nothing else.
		{chain, "u4", "0 s", []int{204, 203, 202, 201, 200}},
		{chain, "u2", "u3 s", []int{202, 201, 200, 2, 1}},
		{chain, "u0", "u1 s", []int{200, 4, 3, 2, 1}},
		{chain, "0 s s s s s s", "u0", []int{5, 4, 3, 2, 1}},
		{chain, "u4 s s s s s", "u0", []int{204, 203, 202, 201, 200}},
		{[]impl.Con{lt(0, 1), lt(1, 2), lt(3, 2), lt(-1, 0)}, "u3", "u0 s s s", []int{1, 2, 201, 200, 0}},
	} {
		env := witness(t, x.list, readLevel(t, x.a), readLevel(t, x.b))
		if !slices.Equal(env, x.want) {
			t.Errorf("Witness of %s and %s under %v: %v, not %v", x.a, x.b, x.list, env, x.want)
		}
	}
	if env := witness(t, nil, tower(impl.MaxLevel), tower(impl.MaxLevel-1)); !slices.Equal(env, zeroEnv()) {
		t.Error("Witness of full levels", env)
	}
	if !impl.LeUnder([]impl.Con{lt(1, 0)}, tower(impl.MaxLevel), readLevel(t, "u0 s s s s s s s s s s s s s s s s s s s s s s")) {
		t.Error("LeUnder of a full level")
	}
}

func TestSignEnvOfSignsThatAreNone(t *testing.T) {
	for _, list := range underLists() {
		for _, sign := range badSigns() {
			noSignEnv(t, list, sign)
			if impl.AtomUnder(list, sign, number(0)[0], number(0)) {
				t.Errorf("AtomUnder(%v, %d)", list, sign)
			}
		}
	}
}

func TestAtomUnderSignsThatTheListExcludes(t *testing.T) {
	list := []impl.Con{lt(0, 1), le(2, -1)}
	for sign := range signCount {
		up := positive(sign)
		if possible := up[1] && !up[2]; impl.AtomUnder(list, sign, number(1)[0], number(1)) != possible {
			t.Errorf("AtomUnder for the sign %d", sign)
		}
	}
}

func TestAtomUnderOfWhatIsNoResidual(t *testing.T) {
	list := []impl.Con{lt(0, 1)}
	big := []impl.Atom{{Param: -1, Off: 1000}}
	for _, x := range []impl.Atom{{Param: 2}, {Param: 3}, {Param: 4}, {Param: -2}, {Param: 5}, {Param: 0, Off: -1}, {Param: -1, Off: -1}, {Param: 0, Off: 1001}, {Param: -1, Off: 1001},
		{Param: math.MinInt}, {Param: math.MaxInt}, {Param: -1, Off: math.MinInt}, {Param: 1, Off: math.MinInt}, {Param: 0, Off: math.MaxInt}} {
		if impl.AtomUnder(list, 3, x, big) || impl.AtomUnder(list, 3, x, []impl.Atom{{Param: 0, Off: 1000}, {Param: 1, Off: 1000}}) {
			t.Errorf("AtomUnder of %v", x)
		}
		if impl.AtomUnder(list, 3, number(0)[0], []impl.Atom{x}) {
			t.Errorf("AtomUnder of a number and %v", x)
		}
	}
	zero := number(0)[0]
	for _, n := range [][]impl.Atom{
		nil, {}, {{Param: 1, Off: 3}, {Param: 0}}, {{Param: 1}, {Param: 1}}, {{Param: 0}, {Param: -1, Off: 9}}, {{Param: -1, Off: 1}, {Param: 0}}, {{Param: -1, Off: 0}, {Param: 0}},
		{{Param: -1, Off: 3}, {Param: 0}, {Param: 1, Off: 2}}, {{Param: 1}, {Param: 2}}, {{Param: -1, Off: 9}, {Param: -1, Off: 10}}, {{Param: 0, Off: 1}, {Param: 5}}, make([]impl.Atom, 1000),
	} {
		if impl.AtomUnder(list, 3, zero, n) {
			t.Errorf("AtomUnder of a number and %v", n)
		}
	}
	if !impl.AtomUnder(list, 3, zero, []impl.Atom{{Param: -1, Off: 3}, {Param: 0}, {Param: 1, Off: 1}}) {
		t.Error("AtomUnder of a residual")
	}
}

func TestAtomUnderOfNumbersAndParameters(t *testing.T) {
	list := []impl.Con{lt(-1, 0), lt(0, 1), le(1, 2)}
	for _, c := range []struct {
		x    impl.Atom
		n    []impl.Atom
		want bool
	}{
		// A number beside a number, and beside parameters of at least 1 and 2.
		{impl.Atom{Param: -1, Off: 4}, number(4), true}, {impl.Atom{Param: -1, Off: 5}, number(4), false},
		{impl.Atom{Param: -1, Off: 1}, []impl.Atom{{Param: 0}}, true}, {impl.Atom{Param: -1, Off: 2}, []impl.Atom{{Param: 0}}, false},
		{impl.Atom{Param: -1, Off: 2}, []impl.Atom{{Param: 2}}, true}, {impl.Atom{Param: -1, Off: 3}, []impl.Atom{{Param: 2}}, false},
		{impl.Atom{Param: -1, Off: 3}, []impl.Atom{{Param: 0}, {Param: 1, Off: 1}}, true}, {impl.Atom{Param: -1, Off: 4}, []impl.Atom{{Param: 0, Off: 2}, {Param: 1, Off: 1}}, false},
		{impl.Atom{Param: -1, Off: 1000}, []impl.Atom{{Param: 1, Off: 998}}, true}, {impl.Atom{Param: -1, Off: 1000}, []impl.Atom{{Param: 1, Off: 997}}, false},
		// A parameter is never at most a number.
		{impl.Atom{Param: 0}, number(1000), false}, {impl.Atom{Param: 2}, number(1000), false},
		{impl.Atom{Param: 0}, []impl.Atom{{Param: -1, Off: 1000}, {Param: 1}}, true}, {impl.Atom{Param: 1}, []impl.Atom{{Param: -1, Off: 1000}, {Param: 0, Off: 998}}, false},
		// A parameter beside itself and others.
		{impl.Atom{Param: 0, Off: 3}, []impl.Atom{{Param: 0, Off: 3}}, true}, {impl.Atom{Param: 0, Off: 4}, []impl.Atom{{Param: 0, Off: 3}}, false},
		{impl.Atom{Param: 0, Off: 4}, []impl.Atom{{Param: 0, Off: 3}, {Param: 2, Off: 3}}, true}, {impl.Atom{Param: 0, Off: 5}, []impl.Atom{{Param: 1, Off: 3}, {Param: 2, Off: 3}}, false},
		{impl.Atom{Param: 2}, []impl.Atom{{Param: 0, Off: 1000}, {Param: 1, Off: 1000}}, false}, {impl.Atom{Param: 1, Off: 1000}, []impl.Atom{{Param: 2, Off: 1000}}, true},
		{impl.Atom{Param: 0, Off: 1000}, []impl.Atom{{Param: 1, Off: 999}}, true}, {impl.Atom{Param: 0, Off: 1000}, []impl.Atom{{Param: 1, Off: 998}}, false},
	} {
		if impl.AtomUnder(list, 7, c.x, c.n) != c.want {
			t.Errorf("AtomUnder of %v and %v", c.x, c.n)
		}
	}
}

func TestPairsOfConstraints(t *testing.T) {
	with := levelList(t, "u2 s", "0 s s", "u0 u1 imax", "u4", "0")
	text := func(p int) string {
		if p < 0 {
			return "0"
		}
		return impl.LevelText(with[p].Toks)
	}
	for _, u := range sides() {
		for _, v := range sides() {
			for _, c := range []impl.Con{le(u, v), lt(u, v), eq(u, v)} {
				want := []string{text(u), text(v)}
				if c.Rel == impl.RelEq {
					want = append(want, text(v), text(u))
				}
				var got []string
				for _, p := range pairsOf(t, []impl.Con{c}, with) {
					got = append(got, impl.LevelText(p.A), impl.LevelText(p.B))
					if p.Less != (c.Rel == impl.RelLt) {
						t.Errorf("ConsSubst of %v: Less is %v", c, p.Less)
					}
				}
				if !slices.Equal(got, want) {
					t.Errorf("ConsSubst of %v: %v", c, got)
				}
			}
		}
	}
}

func TestPairsAreInTheOrderOfTheConstraints(t *testing.T) {
	list := []impl.Con{eq(1, 0), lt(-1, 1), le(0, -1), eq(0, 0), lt(1, 0)}
	want := []struct {
		a    string
		less bool
		b    string
	}{{"u4", false, "u3 s"}, {"u3 s", false, "u4"}, {"0", true, "u4"}, {"u3 s", false, "0"}, {"u3 s", false, "u3 s"}, {"u3 s", false, "u3 s"}, {"u4", true, "u3 s"}}
	pairs := pairsOf(t, list, levelList(t, "u3 s", "u4"))
	if len(pairs) != len(want) {
		t.Fatal(pairs)
	}
	for i, p := range pairs {
		if impl.LevelText(p.A) != want[i].a || p.Less != want[i].less || impl.LevelText(p.B) != want[i].b {
			t.Errorf("pair %d: %v", i, p)
		}
	}
	if pairs := pairsOf(t, slices.Repeat([]impl.Con{eq(0, 1)}, impl.MaxCons), levelList(t, "u3 s", "u4")); len(pairs) != 48 {
		t.Error(len(pairs))
	}
}

func TestConsSubstWithoutAValidLevel(t *testing.T) {
	good := levelList(t, "u0", "u1", "u2", "u3", "u4")
	for p := range impl.MaxParams {
		for _, rel := range []int{impl.RelLe, impl.RelLt, impl.RelEq} {
			for _, c := range []impl.Con{{U: p, Rel: rel, V: -1}, {U: -1, Rel: rel, V: p}, {U: p, Rel: rel, V: p}, {U: p, Rel: rel, V: 0}, {U: 0, Rel: rel, V: p}} {
				for _, list := range [][]impl.Con{{c}, {le(0, 0), c}, {c, le(-1, -1)}} {
					noPairs(t, list, nil)
					noPairs(t, list, good[:p])
					pairsOf(t, list, good[:p+1])
					for _, bad := range badLevels() {
						with := slices.Clone(good)
						with[p].Toks = bad
						noPairs(t, list, with)
					}
				}
			}
		}
	}
	// What does not occur in a constraint need not be valid, nor be there at all.
	for _, bad := range badLevels() {
		with := []impl.Level{good[0], {Toks: bad}, good[2], {Toks: bad}, {Toks: bad}, {Toks: bad}}
		if pairs := pairsOf(t, []impl.Con{lt(0, 2), le(2, -1)}, with); len(pairs) != 2 || impl.LevelText(pairs[0].B) != "u2" {
			t.Error("ConsSubst", pairs)
		}
		noPairs(t, []impl.Con{lt(0, 2), le(2, 1)}, with)
		pairsOf(t, []impl.Con{eq(-1, -1)}, []impl.Level{{Toks: bad}})
	}
	if pairs := pairsOf(t, []impl.Con{lt(-1, -1)}, nil); len(pairs) != 1 || !pairs[0].Less || impl.LevelText(pairs[0].A) != "0" || impl.LevelText(pairs[0].B) != "0" {
		t.Error("ConsSubst of 0 and 0", pairs)
	}
	full := []impl.Level{{Toks: tower(impl.MaxLevel)}, {Toks: tower(impl.MaxLevel + 1)}}
	if pairs := pairsOf(t, []impl.Con{lt(0, 0)}, full); len(pairs[0].A) != impl.MaxLevel || len(pairs[0].B) != impl.MaxLevel {
		t.Error("ConsSubst of a full level", pairs)
	}
	noPairs(t, []impl.Con{lt(0, 1)}, full)
	pairsOf(t, []impl.Con{lt(0, 4)}, append(good, good...))
}

func TestPairsWithoutRoomForASuccessor(t *testing.T) {
	full, below := tower(impl.MaxLevel), tower(impl.MaxLevel-1)
	great := readLevel(t, "u0 s s s s s s s s s s s s s s s s s s s s s s s")
	list := []impl.Con{lt(1, 0)}
	for _, x := range []struct {
		pair impl.Pair
		want bool
	}{
		{impl.Pair{A: full, B: great}, true}, {impl.Pair{A: full, Less: true, B: great}, false}, {impl.Pair{A: below, Less: true, B: great}, true},
		{impl.Pair{A: below, Less: true, B: full}, true}, {impl.Pair{A: full, B: full}, true}, {impl.Pair{A: readLevel(t, "u1"), Less: true, B: full}, true},
		{impl.Pair{A: below, Less: true, B: below}, false},
	} {
		if impl.PairsUnder(list, []impl.Pair{x.pair}) != x.want {
			t.Errorf("PairsUnder of %v", x.pair)
		}
	}
	if impl.PairsUnder([]impl.Con{lt(0, 0)}, []impl.Pair{{A: full, Less: true, B: great}}) {
		t.Error("PairsUnder of a full level under a contradiction")
	}
}

func TestEveryPairCounts(t *testing.T) {
	u0, u1, u2 := readLevel(t, "u0"), readLevel(t, "u1"), readLevel(t, "u2")
	list := []impl.Con{lt(0, 1), le(1, 2)}
	good := []impl.Pair{{A: u0, Less: true, B: u1}, {A: u1, B: u2}, {A: u0, Less: true, B: u2}, {A: u1, B: u1}}
	if !impl.PairsUnder(list, good) {
		t.Error("PairsUnder")
	}
	for _, bad := range []impl.Pair{{A: u1, Less: true, B: u2}, {A: u1, B: u0}, {A: u1, Less: true, B: u1}, {A: u1, B: nil}, {A: nil, B: u1}, {}} {
		for at := range len(good) + 1 {
			if impl.PairsUnder(list, slices.Insert(slices.Clone(good), at, bad)) {
				t.Errorf("PairsUnder with %v at %d", bad, at)
			}
		}
	}
}
