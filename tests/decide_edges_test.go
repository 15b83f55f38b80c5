package tests

import (
	"slices"
	"testing"

	"loop.example/g00744/impl"
)

func TestComparingLevelsThatAreNotValid(t *testing.T) {
	good := readLevels(t, "0", "u0", "u0 s u1 imax")
	for _, bad := range badLevels() {
		for _, l := range good {
			incomparable(t, bad, l)
			incomparable(t, l, bad)
		}
		for _, other := range badLevels() {
			incomparable(t, bad, other)
		}
		if idle := impl.LevelIdle(bad); len(idle) != 0 {
			t.Errorf("LevelIdle(%v) = %v", bad, idle)
		}
		trim, ok := impl.LevelTrim(bad)
		refused(t, "LevelTrim", trim, ok)
		if v := impl.LevelConst(bad); v != -1 {
			t.Errorf("LevelConst(%v) = %d", bad, v)
		}
	}
}

// A token that is not valid is refused even where it has no influence.
func TestComparingLevelsWithADeadTokenThatIsNotValid(t *testing.T) {
	zero, guarded := impl.Tok{Op: impl.OpZero}, impl.Tok{Op: impl.OpImax}
	for _, n := range []int{-1, impl.MaxParams} {
		bad := []impl.Tok{{Op: impl.OpParam, N: n}, zero, guarded}
		incomparable(t, bad, []impl.Tok{zero})
		incomparable(t, []impl.Tok{zero}, bad)
		trim, ok := impl.LevelTrim(bad)
		refused(t, "LevelTrim", trim, ok)
		if impl.LevelConst(bad) != -1 || len(impl.LevelIdle(bad)) != 0 {
			t.Errorf("%v is accepted", bad)
		}
	}
}

func TestComparisons(t *testing.T) {
	cases := []struct {
		a, b string
		le   bool
		less bool
		eq   bool
	}{
		{"0", "0", true, false, true}, {"0", "u0", true, false, false}, {"0", "0 s", true, true, false},
		{"0", "u0 0 imax", true, false, true}, {"u4 0 imax", "0", true, false, true}, {"0", "u0 s", true, true, false},
		// A parameter against itself, its successor and a number.
		{"u0", "u0", true, false, true}, {"u0", "u0 s", true, true, false}, {"u0 s", "u0", false, false, false},
		{"u0", "u1", false, false, false}, {"u4", "0 s s s s s s s s s s s s s s s s s s s s s s s", false, false, false},
		{"u0", "0", false, false, false},
		// A number against a parameter: it may be 0, and where it guards it is at least 1.
		{"0 s", "u0", false, false, false}, {"0 s", "u0 s", true, false, false}, {"0 s s", "u0 s", false, false, false},
		{"0 s", "u0 s s", true, true, false}, {"0 s u0 imax", "u0", true, false, true}, {"0 s s u0 imax", "u0 s", true, false, false},
		{"0 s s u0 imax", "u0", false, false, false}, {"0 s u0 imax", "u1", false, false, false},
		{"u0", "0 s u0 max", true, false, false}, {"0 s u0 max", "u0", false, false, false},
		// The second operand of OpImax is 0 for some signs.
		{"u0 u1 imax", "u0", false, false, false}, {"u0", "u0 u1 imax", false, false, false}, {"u0 u1 imax", "u0 u1 max", true, false, false},
		{"u0 u1 s imax", "u0 u1 s max", true, false, true}, {"u0 u0 imax", "u0", true, false, true}, {"u0 u1 imax", "u1 u0 imax", false, false, false},
		{"u0 u1 u2 imax imax", "u0 u1 max u2 imax", true, false, true}, {"u0 u1 imax u2 imax", "u0 u1 u2 imax imax", true, false, false},
		{"u0 u1 u2 max imax", "u0 u1 imax u0 u2 imax max", true, false, true}, {"u0 u1 imax s", "u0 s u1 s imax", true, false, false},
		{"u0 u1 imax", "u0 s u1 s imax", true, true, false}, {"u0 s u1 imax", "u0 u1 max s", true, false, false},
	}
	for _, c := range cases {
		a, b := readLevel(t, c.a), readLevel(t, c.b)
		if impl.LevelLe(a, b) != c.le || impl.LevelLess(a, b) != c.less || impl.LevelEq(a, b) != c.eq || impl.LevelEq(b, a) != c.eq {
			t.Errorf("%s and %s: LevelLe %v, LevelLess %v, LevelEq %v", c.a, c.b, impl.LevelLe(a, b), impl.LevelLess(a, b), impl.LevelEq(a, b))
		}
		if c.le {
			noCounter(t, a, b)
		}
	}
}

func TestCounters(t *testing.T) {
	cases := []struct {
		a, b string
		want []int
	}{
		// The sign 0, where every atom is a number.
		{"0 s", "u0", []int{0, 0, 0, 0, 0}}, {"u0 s", "u0", []int{0, 0, 0, 0, 0}}, {"u0 s", "u1", []int{0, 0, 0, 0, 0}},
		// Of several signs the smallest one, and no greater parameter than it has.
		{"u4 u3 max", "0", []int{0, 0, 0, 100, 0}}, {"u4 u0 max", "u0", []int{0, 0, 0, 0, 100}}, {"u0", "u1", []int{100, 0, 0, 0, 0}},
		{"u1", "u0", []int{0, 100, 0, 0, 0}}, {"u2", "u0 u1 max", []int{0, 0, 100, 0, 0}}, {"u0 u1 imax", "u1", []int{100, 1, 0, 0, 0}},
		{"u1 u0 imax", "u0", []int{1, 100, 0, 0, 0}}, {"u0 u1 imax", "u1 u0 imax", []int{0, 100, 0, 0, 0}}, {"u0 u4 imax", "u4", []int{100, 0, 0, 0, 1}},
		{"u0 u1 imax u2 imax", "u1 u2 imax", []int{100, 1, 1, 0, 0}}, {"u4 u3 u1 imax imax", "u3 u1 imax", []int{0, 1, 0, 0, 100}},
		// The first atom that does not fit is a number.
		{"0 s s u0 imax", "u0", []int{1, 0, 0, 0, 0}}, {"0 s s s u2 imax", "u2 s", []int{0, 0, 1, 0, 0}},
		{"0 s s s u0 max u1 imax", "u1 s", []int{0, 1, 0, 0, 0}}, {"0 s s s u0 max u1 imax", "u1", []int{0, 1, 0, 0, 0}},
		// A number fits, and the first atom that does not has a Param.
		{"0 s s s u0 max", "0 s s s", []int{100, 0, 0, 0, 0}}, {"0 s s s u4 max", "0 s s s u3 max", []int{0, 0, 0, 0, 100}},
		{"u0 u1 s max u2 imax", "u0 u1 max u2 s imax", []int{0, 100, 1, 0, 0}}, {"u0 s u1 s max u2 imax", "u0 u1 max u2 s imax", []int{100, 0, 1, 0, 0}},
		{"u0 u1 max s u2 imax u3 imax", "u0 s u2 imax u1 u3 imax max u2 s max", []int{0, 100, 1, 1, 0}},
	}
	for _, c := range cases {
		a, b := readLevel(t, c.a), readLevel(t, c.b)
		env := counter(t, a, b)
		if !slices.Equal(env, c.want) {
			t.Errorf("Counter of %s and %s: %v, not %v", c.a, c.b, env, c.want)
		}
		if evalLevel(t, a, env) <= evalLevel(t, b, env) || impl.LevelLe(a, b) {
			t.Errorf("Counter of %s and %s: %v is none", c.a, c.b, env)
		}
	}
}

func TestLevelsThatDifferForOneSignOnly(t *testing.T) {
	a, b := readLevel(t, "0 s u0 max u1 max u2 max u3 max u4 max"), readLevel(t, "u0 u1 max u2 max u3 max u4 max")
	if !impl.LevelLe(b, a) || impl.LevelLe(a, b) || impl.LevelEq(a, b) || impl.LevelLess(b, a) || !slices.Equal(counter(t, a, b), zeroEnv()) {
		t.Error("the sign 0")
	}
	for sign := 1; sign < signCount; sign++ {
		a, b := differOnlyFor(t, sign)
		if impl.LevelLe(a, b) || impl.LevelEq(a, b) || impl.LevelEq(b, a) || impl.LevelLess(a, b) {
			t.Errorf("%v and %v are compared as if the sign %d were left out", a, b, sign)
		}
		env := counter(t, a, b)
		if impl.SignOf(env) != sign {
			t.Errorf("Counter(%v, %v) = %v has not the sign %d", a, b, env, sign)
		}
		for other := range signCount {
			if impl.ResidLe(residual(t, a, other), residual(t, b, other), other) != (other != sign) {
				t.Fatalf("%v and %v differ for the sign %d", a, b, other)
			}
		}
	}
	all, rest := readLevel(t, "u0 u1 imax u2 imax u3 imax u4 imax"), readLevel(t, "u1 u2 imax u3 imax u4 imax")
	if !impl.LevelLe(rest, all) || !slices.Equal(counter(t, all, rest), []int{100, 1, 1, 1, 1}) {
		t.Error("the sign MaxSign")
	}
}

func TestLessWhereASuccessorWouldBeTooLong(t *testing.T) {
	// The first level has MaxLevel tokens and the value of u0 s.
	full := readLevel(t, "u0 u0 max u0 max u0 max u0 max u0 max u0 max u0 max u0 max u0 max u0 max u0 imax s")
	if _, ok := impl.LevelSucc(full, 1); ok || len(full) != impl.MaxLevel {
		t.Fatal(len(full))
	}
	cases := map[string][3]bool{
		"u0 s s": {true, true, false}, "u0 s": {true, false, true}, "u0": {false, false, false}, "u0 s s s u1 max": {true, true, false}, "u1 s s": {false, false, false},
		"u0 u1 s imax s s": {true, true, false}, "u0 u1 imax s s": {false, false, false},
	}
	for text, want := range cases {
		b := readLevel(t, text)
		if got := [3]bool{impl.LevelLe(full, b), impl.LevelLess(full, b), impl.LevelEq(full, b)}; got != want {
			t.Errorf("a full level and %s: %v", text, got)
		}
	}
	top := tower(impl.MaxLevel)
	if !impl.LevelLe(top, top) || impl.LevelLess(top, top) || !impl.LevelEq(top, top) {
		t.Error("a full level and itself")
	}
	if !impl.LevelLess(tower(impl.MaxLevel-1), top) || impl.LevelLe(top, tower(impl.MaxLevel-1)) || impl.LevelLess(top, tower(impl.MaxLevel-1)) {
		t.Error("a full level and the one below")
	}
	if !slices.Equal(counter(t, top, tower(impl.MaxLevel-1)), zeroEnv()) || !slices.Equal(counter(t, full, readLevel(t, "u1 s s")), []int{100, 0, 0, 0, 0}) {
		t.Error("Counter of a full level")
	}
	if len(impl.LevelIdle(full)) != 0 || !slices.Equal(trimmed(t, full), full) || impl.LevelConst(top) != -1 {
		t.Error("a full level has an idle parameter or is constant")
	}
}

func TestIdleTrimAndConst(t *testing.T) {
	cases := []struct {
		text  string
		idle  []int
		trim  string
		value int
	}{
		// Without parameters.
		{"0", nil, "0", 0}, {"0 s s", nil, "0 s s", 2}, {"0 s 0 imax", nil, "0 s 0 imax", 0}, {"0 0 s imax s", nil, "0 0 s imax s", 2},
		// None idle.
		{"u0", nil, "u0", -1}, {"u0 u1 imax", nil, "u0 u1 imax", -1}, {"u3 u3 imax", nil, "u3 u3 imax", -1}, {"u0 0 imax u0 max", nil, "u0 0 imax u0 max", -1},
		{"0 s u4 imax", nil, "0 s u4 imax", -1}, {"u0 s s", nil, "u0 s s", -1},
		// All idle.
		{"u0 0 imax", []int{0}, "0 0 imax", 0}, {"u0 0 imax s s", []int{0}, "0 0 imax s s", 2}, {"u4 u0 max u2 imax 0 imax s", []int{0, 2, 4}, "0 0 max 0 imax 0 imax s", 1},
		{"u0 u1 u2 u3 u4 imax imax imax imax 0 imax", []int{0, 1, 2, 3, 4}, "0 0 0 0 0 imax imax imax imax 0 imax", 0},
		{"u3 u1 0 imax imax 0 s s s max", []int{1, 3}, "0 0 0 imax imax 0 s s s max", 3},
		// Some idle, once and more than once.
		{"u0 0 imax u1 max", []int{0}, "0 0 imax u1 max", -1}, {"u4 u1 s 0 imax max", []int{1}, "u4 0 s 0 imax max", -1},
		{"u2 u2 max u2 s imax 0 imax u0 max u2 0 imax max", []int{2}, "0 0 max 0 s imax 0 imax u0 max 0 0 imax max", -1},
		{"u1 u3 u1 imax 0 imax max u3 s 0 imax s max", []int{3}, "u1 0 u1 imax 0 imax max 0 s 0 imax s max", -1},
	}
	for _, c := range cases {
		l := readLevel(t, c.text)
		if idle := impl.LevelIdle(l); !slices.Equal(idle, c.idle) {
			t.Errorf("LevelIdle of %s: %v", c.text, idle)
		}
		if trim := impl.LevelText(trimmed(t, l)); trim != c.trim {
			t.Errorf("LevelTrim of %s: %s", c.text, trim)
		}
		if v := impl.LevelConst(l); v != c.value {
			t.Errorf("LevelConst of %s: %d", c.text, v)
		}
	}
}
