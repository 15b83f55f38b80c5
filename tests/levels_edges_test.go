package tests

import (
	"math"
	"slices"
	"strings"
	"testing"

	"loop.example/g00744/impl"
)

// rejects checks that every function refuses the list that is not a level.
func rejects(t *testing.T, l []impl.Tok) {
	t.Helper()
	if impl.LevelOk(l) {
		t.Errorf("%v is accepted", l)
	}
	if v, ok := impl.LevelEval(l, zeroEnv()); ok || v != 0 {
		t.Errorf("LevelEval(%v) = %d, %v", l, v, ok)
	}
	if p := impl.LevelParams(l); len(p) != 0 {
		t.Errorf("LevelParams(%v) = %v", l, p)
	}
	if n := impl.LevelOff(l); n != -1 {
		t.Errorf("LevelOff(%v) = %d", l, n)
	}
	if s := impl.LevelText(l); s != "" {
		t.Errorf("LevelText(%v) = %q", l, s)
	}
	good := []impl.Tok{{Op: impl.OpZero}}
	s, ok := impl.LevelSucc(l, 0)
	refused(t, "LevelSucc", s, ok)
	s, ok = impl.LevelJoin(impl.OpMax, l, good)
	refused(t, "LevelJoin, first level", s, ok)
	s, ok = impl.LevelJoin(impl.OpMax, good, l)
	refused(t, "LevelJoin, second level", s, ok)
	s, ok = impl.LevelSubst(l, slices.Repeat([]impl.Level{{Toks: good}}, impl.MaxParams))
	refused(t, "LevelSubst", s, ok)
	s, ok = impl.LevelSubst(good, []impl.Level{{Toks: l}})
	refused(t, "LevelSubst, element that no token uses", s, ok)
	s, ok = impl.LevelSubst([]impl.Tok{{Op: impl.OpParam}}, []impl.Level{{Toks: l}})
	refused(t, "LevelSubst, element that a token uses", s, ok)
}

func refused(t *testing.T, what string, l []impl.Tok, ok bool) {
	t.Helper()
	if ok || len(l) != 0 {
		t.Errorf("%s: %v, %v", what, l, ok)
	}
}

func TestLevelOkOfAllShortLists(t *testing.T) {
	check := func(l []impl.Tok) {
		if impl.LevelOk(l) != (treeOf(l) != nil) {
			t.Fatalf("LevelOk(%v) = %v", l, impl.LevelOk(l))
		}
	}
	sequences(goodToks(), 6, check)
	sequences(append(goodToks(), badToks()...), 4, check)
}

func TestInvalidLevels(t *testing.T) {
	zero, succ := impl.Tok{Op: impl.OpZero}, impl.Tok{Op: impl.OpSucc}
	greater, guarded := impl.Tok{Op: impl.OpMax}, impl.Tok{Op: impl.OpImax}
	lists := [][]impl.Tok{
		nil, {},
		{succ}, {greater}, {guarded}, {zero, greater}, {zero, guarded},
		{succ, zero}, {zero, greater, zero}, {zero, guarded, zero, greater},
		{zero, zero}, {zero, zero, zero, greater}, {zero, zero, succ},
	}
	for _, l := range lists {
		rejects(t, l)
	}
}

func TestLevelLengthLimit(t *testing.T) {
	full := tower(impl.MaxLevel)
	if !impl.LevelOk(full) || impl.LevelOff(full) != 23 || evalLevel(t, full, []int{0, 1000, 0, 0, 0}) != 1023 {
		t.Error("MaxLevel tokens are refused")
	}
	if p := impl.LevelParams(full); !slices.Equal(p, []int{1}) {
		t.Error(p)
	}
	text := "u1" + strings.Repeat(" s", 23)
	if back, ok := impl.LevelRead(text); !ok || !slices.Equal(back, full) || impl.LevelText(full) != text {
		t.Error(back, ok)
	}
	rejects(t, tower(impl.MaxLevel+1))
	rejects(t, tower(1000))
	for n := 25; n < 60; n++ {
		l, ok := impl.LevelRead("u1" + strings.Repeat(" s", n-1))
		refused(t, "LevelRead of a long text", l, ok)
	}
}

func TestParamLimits(t *testing.T) {
	last := []impl.Tok{{Op: impl.OpParam, N: impl.MaxParams - 1}}
	if !impl.LevelOk(last) || evalLevel(t, last, []int{1, 2, 3, 4, 5}) != 5 || impl.LevelText(last) != "u4" {
		t.Error("the last parameter is refused")
	}
	for _, n := range []int{impl.MaxParams, impl.MaxParams + 1, -1, math.MaxInt, math.MinInt} {
		rejects(t, []impl.Tok{{Op: impl.OpParam, N: n}})
		rejects(t, []impl.Tok{{Op: impl.OpZero}, {Op: impl.OpParam, N: n}, {Op: impl.OpMax}})
	}
}

func TestNOnlyForParams(t *testing.T) {
	for _, n := range []int{1, -1, 4, math.MaxInt, math.MinInt} {
		rejects(t, []impl.Tok{{Op: impl.OpZero, N: n}})
		rejects(t, []impl.Tok{{Op: impl.OpZero}, {Op: impl.OpSucc, N: n}})
		rejects(t, []impl.Tok{{Op: impl.OpZero}, {Op: impl.OpZero}, {Op: impl.OpMax, N: n}})
		rejects(t, []impl.Tok{{Op: impl.OpZero}, {Op: impl.OpZero}, {Op: impl.OpImax, N: n}})
	}
}

func TestUnknownOps(t *testing.T) {
	for _, op := range []int{-1, 5, 6, math.MaxInt, math.MinInt} {
		rejects(t, []impl.Tok{{Op: op}})
		rejects(t, []impl.Tok{{Op: impl.OpZero}, {Op: op}})
		rejects(t, []impl.Tok{{Op: impl.OpZero}, {Op: impl.OpZero}, {Op: op}})
	}
}

func TestEnvLimits(t *testing.T) {
	l := readLevel(t, "u0 s")
	if v, ok := impl.LevelEval(l, []int{impl.MaxNum, 0, impl.MaxNum, 0, impl.MaxNum}); !ok || v != 1001 {
		t.Error(v, ok)
	}
	closed := readLevel(t, "0 s")
	for _, env := range badEnvs() {
		if v, ok := impl.LevelEval(l, env); ok || v != 0 {
			t.Errorf("LevelEval for %v: %d, %v", env, v, ok)
		}
		if v, ok := impl.LevelEval(closed, env); ok || v != 0 {
			t.Errorf("LevelEval without parameters for %v: %d, %v", env, v, ok)
		}
	}
}

func TestLevelParamsAndOff(t *testing.T) {
	cases := []struct {
		text   string
		params []int
		off    int
	}{
		{"0", nil, 0},
		{"0 s s", nil, 2},
		{"u4 u1 max u4 max", []int{1, 4}, 0},
		{"u3 s u0 s s imax", []int{0, 3}, 3},
		{"u4 u3 u2 u1 u0 max max max max s", []int{0, 1, 2, 3, 4}, 1},
	}
	for _, c := range cases {
		l := readLevel(t, c.text)
		if p := impl.LevelParams(l); !slices.Equal(p, c.params) {
			t.Errorf("LevelParams of %s: %v", c.text, p)
		}
		if n := impl.LevelOff(l); n != c.off {
			t.Errorf("LevelOff of %s: %d", c.text, n)
		}
	}
}

func TestLevelSuccLimits(t *testing.T) {
	l := readLevel(t, "u0 u1 max")
	if s, ok := impl.LevelSucc(l, 0); !ok || !slices.Equal(s, l) {
		t.Error(s, ok)
	}
	if s, ok := impl.LevelSucc(l, impl.MaxLevel-3); !ok || len(s) != impl.MaxLevel {
		t.Error(s, ok)
	}
	if s, ok := impl.LevelSucc(tower(impl.MaxLevel), 0); !ok || len(s) != impl.MaxLevel {
		t.Error(s, ok)
	}
	for _, n := range []int{impl.MaxLevel - 2, impl.MaxLevel, 1 << 40, math.MaxInt - 1, math.MaxInt, -1, -3, math.MinInt} {
		s, ok := impl.LevelSucc(l, n)
		refused(t, "LevelSucc", s, ok)
	}
}

func TestLevelJoinLimits(t *testing.T) {
	l := readLevel(t, "u0")
	for _, op := range []int{impl.OpZero, impl.OpSucc, impl.OpParam, -1, 5, math.MaxInt, math.MinInt} {
		j, ok := impl.LevelJoin(op, l, l)
		refused(t, "LevelJoin", j, ok)
	}
	for _, op := range []int{impl.OpMax, impl.OpImax} {
		if j, ok := impl.LevelJoin(op, tower(11), tower(12)); !ok || len(j) != impl.MaxLevel {
			t.Error(j, ok)
		}
		j, ok := impl.LevelJoin(op, tower(12), tower(12))
		refused(t, "LevelJoin of long levels", j, ok)
		j, ok = impl.LevelJoin(op, tower(24), tower(24))
		refused(t, "LevelJoin of very long levels", j, ok)
	}
}

func TestLevelSubstLimits(t *testing.T) {
	zero, short := impl.Level{Toks: readLevel(t, "0")}, impl.Level{Toks: readLevel(t, "u2")}
	bad := impl.Level{Toks: []impl.Tok{{Op: impl.OpSucc}}}
	l := readLevel(t, "u0 u2 max")
	missing := [][]impl.Level{nil, {}, {zero}, {zero, zero}}
	for _, with := range missing {
		s, ok := impl.LevelSubst(l, with)
		refused(t, "LevelSubst with a missing element", s, ok)
	}
	if s, ok := impl.LevelSubst(l, []impl.Level{short, zero, zero}); !ok || impl.LevelText(s) != "u2 0 max" {
		t.Error(s, ok)
	}
	unused := [][]impl.Level{
		{zero, bad, zero}, {zero, zero, zero, bad}, {zero, zero, zero, zero, zero, zero, bad},
		{zero, {}, zero}, {zero, {Toks: tower(25)}, zero},
	}
	for _, with := range unused {
		s, ok := impl.LevelSubst(l, with)
		refused(t, "LevelSubst with an invalid element that is not used", s, ok)
	}
	many := slices.Repeat([]impl.Level{zero}, 300)
	if s, ok := impl.LevelSubst(l, many); !ok || impl.LevelText(s) != "0 0 max" {
		t.Error(s, ok)
	}
	if s, ok := impl.LevelSubst(zero.Toks, nil); !ok || impl.LevelText(s) != "0" {
		t.Error(s, ok)
	}
}

func TestLevelSubstLength(t *testing.T) {
	l := readLevel(t, "u0 u0 max s s")
	ten, eleven := impl.Level{Toks: tower(10)}, impl.Level{Toks: tower(11)}
	if s, ok := impl.LevelSubst(l, []impl.Level{ten}); !ok || len(s) != 23 {
		t.Error(s, ok)
	}
	s, ok := impl.LevelSubst(l, []impl.Level{eleven})
	refused(t, "LevelSubst with a result of 25 tokens", s, ok)
	l = readLevel(t, "u0 s")
	if s, ok := impl.LevelSubst(l, []impl.Level{{Toks: tower(23)}}); !ok || !slices.Equal(s, tower(24)) {
		t.Error(s, ok)
	}
	s, ok = impl.LevelSubst(l, []impl.Level{{Toks: tower(24)}})
	refused(t, "LevelSubst with one token too many", s, ok)
}

func TestLevelReadRefuses(t *testing.T) {
	texts := []string{
		"", " ", "  ", " 0", "0 ", "0  s", " 0 s", "0 s ", "0\ts", "0\ns", "0\n", "\n0", "0\r",
		"u5", "u9", "u10", "u00", "u01", "u04", "u-1", "u+1", "u", "u 0", "U0", "u0x", "xu0", "u0u1",
		"1", "00", "-0", "+0", "S", "ss", "succ", "Max", "MAX", "imaxx", "ima", "0s", "u0,s",
		"0 0", "s", "max", "imax", "0 max", "u0 imax", "u0 u1", "s 0", "0 u1 max u2",
		"0\x00", "\x00", "0\u00a0s", "ü0", "u\u0660", "\xff", "0 \xff",
	}
	for _, s := range texts {
		l, ok := impl.LevelRead(s)
		refused(t, "LevelRead of "+s, l, ok)
	}
	for _, s := range []string{strings.Repeat(" ", 1<<20), strings.Repeat("0 s ", 1<<18), strings.Repeat("u", 1<<20)} {
		l, ok := impl.LevelRead(s)
		refused(t, "LevelRead of a very long text", l, ok)
	}
}

// Whatever text is read is exactly the text of the level: every text that
// differs from a good one in a single byte is tried.
func TestLevelReadIsExact(t *testing.T) {
	for _, text := range []string{"u0 s u1 imax", "0 u4 max s", "u3"} {
		for i := 0; i <= len(text); i++ {
			for b := range 256 {
				exactRead(t, text[:i]+string([]byte{byte(b)})+text[i:])
				if i < len(text) {
					exactRead(t, text[:i]+string([]byte{byte(b)})+text[i+1:])
					exactRead(t, text[:i]+text[i+1:])
				}
			}
		}
	}
}

func exactRead(t *testing.T, text string) {
	t.Helper()
	l, ok := impl.LevelRead(text)
	if ok && (!impl.LevelOk(l) || impl.LevelText(l) != text) || !ok && len(l) != 0 {
		t.Fatalf("LevelRead(%q) = %v, %v", text, l, ok)
	}
}
