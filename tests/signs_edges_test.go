package tests

import (
	"math"
	"slices"
	"testing"

	"loop.example/g00744/impl"
)

func TestSignOfEnvs(t *testing.T) {
	cases := map[[impl.MaxParams]int]int{
		{0, 0, 0, 0, 0}:                0,
		{1, 0, 0, 0, 0}:                1,
		{0, 0, 0, 0, 1}:                16,
		{0, 3, 0, 1, 0}:                10,
		{1, 1, 1, 1, 1}:                impl.MaxSign,
		{impl.MaxNum, 0, 1, 0, 0}:      5,
		{0, 0, 0, 0, impl.MaxNum}:      16,
		{1000, 1000, 1000, 1000, 1000}: impl.MaxSign,
	}
	for env, want := range cases {
		if got := impl.SignOf(env[:]); got != want {
			t.Errorf("SignOf(%v) = %d", env, got)
		}
	}
	for _, env := range badEnvs() {
		if got := impl.SignOf(env); got != -1 {
			t.Errorf("SignOf(%v) = %d", env, got)
		}
	}
}

func TestSignHasLimits(t *testing.T) {
	for _, p := range []int{0, impl.MaxParams - 1} {
		if impl.SignHas(0, p) || !impl.SignHas(impl.MaxSign, p) || !impl.SignHas(1<<p, p) || impl.SignHas(impl.MaxSign-1<<p, p) {
			t.Errorf("SignHas of the parameter %d", p)
		}
		for _, sign := range badSigns() {
			if impl.SignHas(sign, p) {
				t.Errorf("SignHas(%d, %d)", sign, p)
			}
		}
	}
	for _, p := range badParams() {
		for _, sign := range append(badSigns(), 0, 1, impl.MaxSign) {
			if impl.SignHas(sign, p) {
				t.Errorf("SignHas(%d, %d)", sign, p)
			}
		}
	}
}

func TestLevelsAndSignsThatAreNotValid(t *testing.T) {
	signs := append(badSigns(), 0, 1, impl.MaxSign)
	for _, l := range badLevels() {
		for _, sign := range signs {
			refusedSign(t, l, sign)
		}
		for p := range impl.MaxParams {
			if impl.SignMerge(l, p) {
				t.Errorf("SignMerge(%v, %d)", l, p)
			}
		}
	}
	for _, l := range readLevels(t, "0", "u0", "u0 s u1 imax") {
		for _, sign := range badSigns() {
			refusedSign(t, l, sign)
		}
		for _, sign := range []int{0, impl.MaxSign} {
			if _, ok := impl.Residual(l, sign); !ok || impl.LevelSign(l, sign) < 0 {
				t.Errorf("the sign %d is refused", sign)
			}
		}
		for _, p := range badParams() {
			if impl.SignMerge(l, p) {
				t.Errorf("SignMerge(%v, %d)", l, p)
			}
		}
	}
}

// refusedSign checks that a level and a sign are refused, of which one is not valid.
func refusedSign(t *testing.T, l []impl.Tok, sign int) {
	t.Helper()
	if got := impl.LevelSign(l, sign); got != -1 {
		t.Errorf("LevelSign(%v, %d) = %d", l, sign, got)
	}
	n, ok := impl.Residual(l, sign)
	refusedNorm(t, "Residual", n, ok)
}

func TestSignsAndResidualsOfLevels(t *testing.T) {
	cases := []struct {
		text string
		sign int
		want []impl.Atom
	}{
		{"0", 0, number(0)}, {"0", 31, number(0)}, {"0 s s", 0, number(2)}, {"0 s s", 31, number(2)},
		{"u0", 0, number(0)}, {"u0", 30, number(0)}, {"u0", 1, []impl.Atom{{Param: 0}}}, {"u4 s", 16, []impl.Atom{{Param: 4, Off: 1}}},
		{"u4 s", 15, number(1)}, {"u0 s s u1 max", 2, []impl.Atom{{Param: -1, Off: 2}, {Param: 1}}},
		// The second operand of OpImax is 0 for the sign, or positive.
		{"u0 s u1 imax", 0, number(0)}, {"u0 s u1 imax", 1, number(0)}, {"u0 s u1 imax", 2, []impl.Atom{{Param: 1}}},
		{"u0 s u1 imax", 3, []impl.Atom{{Param: 0, Off: 1}, {Param: 1}}}, {"u0 s 0 imax", 31, number(0)}, {"u0 0 s imax", 1, []impl.Atom{{Param: 0}}},
		{"u0 0 s imax", 0, number(1)}, {"u1 s u0 u0 imax imax s", 2, number(1)}, {"u1 s u0 u0 imax imax s", 3, []impl.Atom{{Param: 0, Off: 1}, {Param: 1, Off: 2}}},
		{"u0 u1 0 max imax", 1, number(0)}, {"u0 u1 0 s max imax", 1, []impl.Atom{{Param: 0}}},
		// Nested OpImax.
		{"u0 u1 u2 imax imax", 7, []impl.Atom{{Param: 0}, {Param: 1}, {Param: 2}}}, {"u0 u1 u2 imax imax", 3, number(0)},
		{"u0 u1 u2 imax imax", 5, []impl.Atom{{Param: 0}, {Param: 2}}}, {"u0 u1 imax u2 imax", 5, []impl.Atom{{Param: 2}}},
		{"u0 u1 imax u2 imax", 7, []impl.Atom{{Param: 0}, {Param: 1}, {Param: 2}}}, {"u0 u1 imax u2 imax", 3, number(0)},
		{"u0 u1 imax s u2 imax", 5, []impl.Atom{{Param: 2}}}, {"u3 u0 u1 imax s imax", 9, []impl.Atom{{Param: 3}}},
		// Numbers beside positive parameters, and none beside those that are 0.
		{"u0 0 s max", 1, []impl.Atom{{Param: 0}}}, {"u0 0 s max", 0, number(1)}, {"u0 0 s s max", 1, []impl.Atom{{Param: -1, Off: 2}, {Param: 0}}},
		{"0 s u0 max s", 1, []impl.Atom{{Param: 0, Off: 1}}}, {"0 s s u0 s u1 max max", 3, []impl.Atom{{Param: 0, Off: 1}, {Param: 1}}},
		{"0 s s u0 s u1 max max", 2, []impl.Atom{{Param: -1, Off: 2}, {Param: 1}}}, {"0 s s s u0 s u1 max max", 3, []impl.Atom{{Param: -1, Off: 3}, {Param: 0, Off: 1}, {Param: 1}}},
		{"u0 s u1 max", 2, []impl.Atom{{Param: 1}}}, {"u0 u1 max u0 s max", 1, []impl.Atom{{Param: 0, Off: 1}}},
		{"u1 u0 max u4 max u3 max u2 max", 31, []impl.Atom{{Param: 0}, {Param: 1}, {Param: 2}, {Param: 3}, {Param: 4}}},
	}
	for _, c := range cases {
		l := readLevel(t, c.text)
		if n := residual(t, l, c.sign); !slices.Equal(n, c.want) {
			t.Errorf("Residual of %s for %d: %v, not %v", c.text, c.sign, n, c.want)
		}
		want := 1
		if slices.Equal(c.want, number(0)) {
			want = 0
		}
		if got := impl.LevelSign(l, c.sign); got != want {
			t.Errorf("LevelSign of %s for %d: %d", c.text, c.sign, got)
		}
	}
	full := residual(t, tower(impl.MaxLevel), 2)
	if !slices.Equal(full, []impl.Atom{{Param: 1, Off: 23}}) || !slices.Equal(residual(t, tower(impl.MaxLevel), 0), number(23)) {
		t.Error(full)
	}
}

func TestResidOkLists(t *testing.T) {
	good := []struct {
		n    []impl.Atom
		sign int
	}{
		{number(0), 0}, {number(0), 31}, {number(5), 3}, {number(impl.MaxOff), 0},
		{[]impl.Atom{{Param: 0}}, 1}, {[]impl.Atom{{Param: 4, Off: impl.MaxOff}}, 16}, {[]impl.Atom{{Param: 1}, {Param: 3}}, 10},
		{[]impl.Atom{{Param: -1, Off: 2}, {Param: 1}}, 2}, {[]impl.Atom{{Param: -1, Off: 9}, {Param: 0, Off: 7}, {Param: 1, Off: 7}}, 3},
		{[]impl.Atom{{Param: -1, Off: impl.MaxOff}, {Param: 0, Off: impl.MaxOff - 2}}, 1},
		{[]impl.Atom{{Param: -1, Off: 3}, {Param: 0}, {Param: 1, Off: 1}, {Param: 2}, {Param: 3}, {Param: 4, Off: 1}}, 31},
	}
	for _, c := range good {
		if !impl.ResidOk(c.n, c.sign) || !impl.ResidLe(c.n, c.n, c.sign) {
			t.Errorf("%v is refused for the sign %d", c.n, c.sign)
		}
		for _, sign := range badSigns() {
			rejectsResid(t, c.n, sign)
		}
	}
}

// rejectsResid checks that every function refuses a list that is not a
// residual for the sign.
func rejectsResid(t *testing.T, n []impl.Atom, sign int) {
	t.Helper()
	if impl.ResidOk(n, sign) {
		t.Errorf("%v is accepted for the sign %d", n, sign)
	}
	if impl.ResidLe(n, n, sign) || impl.ResidLe(n, number(1000), sign) || impl.ResidLe(number(0), n, sign) {
		t.Errorf("ResidLe holds for %v and the sign %d", n, sign)
	}
	if sign < 0 || sign >= signCount {
		return
	}
	for _, env := range envsOf(sign, 1, impl.MaxNum) {
		if v, ok := impl.ResidEval(n, env); ok || v != 0 {
			t.Errorf("ResidEval(%v, %v) = %d, %v", n, env, v, ok)
		}
	}
}

func TestResidOkRefuses(t *testing.T) {
	lists := [][]impl.Atom{
		nil, {},
		{{Param: 1}, {Param: 0}}, {{Param: 1}, {Param: 1}}, {{Param: 1, Off: 1}, {Param: 1}}, {{Param: 0}, {Param: 2}, {Param: 1}},
		{{Param: 0}, {Param: -1, Off: 5}}, {{Param: -1, Off: 5}, {Param: -1, Off: 3}}, {{Param: -1, Off: 5}, {Param: -1, Off: 9}},
		{{Param: -1}, {Param: 0}}, {{Param: -1, Off: 1}, {Param: 0}}, {{Param: -1, Off: 2}, {Param: 0, Off: 1}}, {{Param: -1, Off: 2}, {Param: 4, Off: 7}},
		{{Param: -1, Off: 5}, {Param: 0, Off: 3}, {Param: 1, Off: 4}}, {{Param: -1, Off: 5}, {Param: 0, Off: 4}, {Param: 1, Off: 3}},
		{{Param: -1, Off: 1000}, {Param: 1, Off: 999}}, {{Param: -1, Off: 1000}, {Param: 1, Off: 1000}},
		{{Param: -2}}, {{Param: impl.MaxParams}}, {{Param: math.MaxInt}}, {{Param: math.MinInt}},
		{{Param: 0, Off: -1}}, {{Param: 0, Off: impl.MaxOff + 1}}, {{Off: math.MaxInt}}, {{Off: math.MinInt}},
		{{Param: -1, Off: -1}}, {{Param: -1, Off: impl.MaxOff + 1}}, {{Param: -1, Off: math.MinInt}}, {{Param: -1, Off: math.MinInt}, {Param: 1}},
		{{Param: -1, Off: 1}, {Param: 1, Off: -1}}, {{Param: -1, Off: impl.MaxOff + 1}, {Param: 1}}, {{Param: 0}, {Param: 4, Off: impl.MaxOff + 1}},
		{{Param: -1, Off: 1}, {Param: 1, Off: math.MaxInt}}, make([]impl.Atom, 100000),
	}
	for _, n := range lists {
		for _, sign := range append(badSigns(), 0, 3, 31) {
			rejectsResid(t, n, sign)
		}
	}
	// The Params must be positive in the sign, each of them.
	for sign := range signCount {
		for p, up := range positive(sign) {
			n := []impl.Atom{{Param: p, Off: 1}}
			if impl.ResidOk(n, sign) != up || impl.ResidOk([]impl.Atom{{Param: -1, Off: 3}, n[0]}, sign) != up {
				t.Errorf("ResidOk of the parameter %d for the sign %d", p, sign)
			}
			if !up {
				rejectsResid(t, n, sign)
			}
		}
	}
	rejectsResid(t, []impl.Atom{{Param: 0}, {Param: 1}}, 1)
	rejectsResid(t, []impl.Atom{{Param: 0}, {Param: 1}}, 2)
	rejectsResid(t, []impl.Atom{{Param: -1, Off: 2}, {Param: 1}}, 1)
}

func TestNumberBesidePositiveParams(t *testing.T) {
	others := []impl.Atom{{Param: 0, Off: 4}, {Param: 3, Off: 7}, {Param: 4, Off: 2}}
	for off := range 13 {
		n := append(number(off), others...)
		if impl.ResidOk(n, 25) != (off >= 9) {
			t.Errorf("ResidOk with the number %d", off)
		}
		l := readLevel(t, "u0 s s u3 s s s s s max")
		for range off {
			l = slices.Insert(l, 0, impl.Tok{Op: impl.OpSucc})
		}
		l = append(slices.Insert(l, 0, impl.Tok{Op: impl.OpZero}), impl.Tok{Op: impl.OpMax})
		want := []impl.Atom{{Param: 0, Off: 2}, {Param: 3, Off: 5}}
		if off >= 7 {
			want = append(number(off), want...)
		}
		if got := residual(t, l, 9); !slices.Equal(got, want) {
			t.Errorf("Residual with the number %d: %v", off, got)
		}
	}
}

func TestResidLeOfNumbers(t *testing.T) {
	for off := range 8 {
		param := []impl.Atom{{Param: 2, Off: 3}}
		pair := []impl.Atom{{Param: 0, Off: 1}, {Param: 4, Off: 3}}
		if impl.ResidLe(number(off), param, 4) != (off <= 4) || impl.ResidLe(number(off), pair, 17) != (off <= 4) {
			t.Errorf("the number %d against an Off of 3", off)
		}
		if impl.ResidLe(param, number(off), 4) || impl.ResidLe(pair, number(off), 17) {
			t.Errorf("a parameter is at most %d", off)
		}
		if impl.ResidLe(number(off), number(3), 31) != (off <= 3) || impl.ResidLe(number(off), number(3), 0) != (off <= 3) {
			t.Errorf("the numbers %d and 3", off)
		}
		both := []impl.Atom{{Param: -1, Off: 5}, {Param: 2, Off: 3}}
		if impl.ResidLe(number(off), both, 4) != (off <= 5) {
			t.Errorf("the number %d against 5 and an Off of 3", off)
		}
	}
	// A parameter is at least 1, but not more.
	if !impl.ResidLe(number(1), []impl.Atom{{Param: 0}}, 1) || impl.ResidLe(number(2), []impl.Atom{{Param: 0}}, 1) {
		t.Error("a number against a parameter")
	}
	if !impl.ResidLe(number(impl.MaxOff), []impl.Atom{{Param: 1, Off: impl.MaxOff - 1}}, 2) || impl.ResidLe(number(impl.MaxOff), []impl.Atom{{Param: 1, Off: impl.MaxOff - 2}}, 2) {
		t.Error("MaxOff against a parameter")
	}
}

func TestResidLeOfParams(t *testing.T) {
	low, high := []impl.Atom{{Param: 1, Off: 2}}, []impl.Atom{{Param: 1, Off: 3}}
	if !impl.ResidLe(low, high, 2) || !impl.ResidLe(low, low, 2) || impl.ResidLe(high, low, 2) {
		t.Error("Offs of one parameter")
	}
	// No parameter is at most another one or a number, however large that is.
	if impl.ResidLe([]impl.Atom{{Param: 0}}, []impl.Atom{{Param: 1, Off: impl.MaxOff}}, 3) || impl.ResidLe([]impl.Atom{{Param: 0}}, number(impl.MaxOff), 1) {
		t.Error("a parameter is at most a large Off")
	}
	// A number of the first one may be covered by a parameter and the other way round.
	a, b := []impl.Atom{{Param: -1, Off: 4}, {Param: 0, Off: 1}}, []impl.Atom{{Param: 0, Off: 1}, {Param: 1, Off: 3}}
	if !impl.ResidLe(a, b, 3) || impl.ResidLe(b, a, 3) {
		t.Error("a number that a parameter covers")
	}
	if impl.ResidLe(a, b, 1) || impl.ResidLe(a, b, 2) || impl.ResidLe(b, a, 1) {
		t.Error("ResidLe holds for a list that is no residual for the sign")
	}
	if !impl.ResidLe([]impl.Atom{{Param: 1}}, []impl.Atom{{Param: -1, Off: 2}, {Param: 1}}, 2) || impl.ResidLe([]impl.Atom{{Param: -1, Off: 2}, {Param: 1}}, []impl.Atom{{Param: 1}}, 2) {
		t.Error("a number beside a parameter")
	}
}

func TestResidEvalEnvs(t *testing.T) {
	n := []impl.Atom{{Param: -1, Off: 5}, {Param: 1, Off: 3}}
	values := map[int]int{1: 5, 2: 5, 3: 6, impl.MaxNum: impl.MaxNum + 3}
	for v, want := range values {
		if got := evalResid(t, n, []int{0, v, 0, 0, 0}); got != want {
			t.Errorf("%d for u1 = %d", got, v)
		}
		if got := evalResid(t, n, []int{v, v, 0, 0, v}); got != want {
			t.Errorf("%d for u1 = %d and other parameters", got, v)
		}
	}
	// The env has a sign in which the Param is not positive.
	for _, env := range append(badEnvs(), zeroEnv(), []int{1, 0, 1, 1, 1}, []int{impl.MaxNum, 0, 0, 0, 0}) {
		if v, ok := impl.ResidEval(n, env); ok || v != 0 {
			t.Errorf("ResidEval(%v, %v) = %d, %v", n, env, v, ok)
		}
	}
	for _, env := range badEnvs() {
		if v, ok := impl.ResidEval(number(2), env); ok || v != 0 {
			t.Errorf("ResidEval of a number for %v: %d, %v", env, v, ok)
		}
	}
	if evalResid(t, number(2), zeroEnv()) != 2 || evalResid(t, number(0), []int{1, 1000, 0, 1, 1}) != 0 {
		t.Error("a number depends on the env")
	}
	top := []impl.Atom{{Param: 4, Off: impl.MaxOff}}
	if evalResid(t, top, []int{0, 0, 0, 0, impl.MaxNum}) != impl.MaxOff+impl.MaxNum {
		t.Error("the greatest value")
	}
}

func TestSignMergeOfLevels(t *testing.T) {
	cases := map[string][]int{ // the parameters on which the value does not depend
		"0 s":                            {0, 1, 2, 3, 4},
		"u0":                             {1, 2, 3, 4},
		"u4 s":                           {0, 1, 2, 3},
		"u0 u1 max u2 max u3 max u4 max": {},
		// Without influence, although the level has it.
		"u0 0 imax u1 max":    {0, 2, 3, 4},
		"u1 0 imax":           {0, 1, 2, 3, 4},
		"u0 u1 0 imax imax":   {0, 1, 2, 3, 4},
		"u0 u1 0 imax s imax": {1, 2, 3, 4},
		"u0 u4 imax 0 imax s": {0, 1, 2, 3, 4},
		// u1 decides whether an OpImax is 0; if that is positive, it is at least u1.
		"u0 u1 imax":                    {2, 3, 4},
		"u0 s s u1 imax":                {2, 3, 4},
		"0 s s s u1 imax":               {0, 2, 3, 4},
		"0 s s u1 u1 imax imax 0 s max": {0, 2, 3, 4},
		"u0 0 s u1 imax imax":           {2, 3, 4},
		"u0 0 s u1 imax imax u0 max":    {2, 3, 4},
		"u0 0 s u1 imax max":            {2, 3, 4},
		// The OpImax that it decides about is itself without influence.
		"0 s s u1 imax 0 imax":             {0, 1, 2, 3, 4},
		"u0 0 s s u1 imax 0 imax max":      {1, 2, 3, 4},
		"u0 u2 u1 imax 0 imax s imax":      {1, 2, 3, 4},
		"u3 u0 u1 imax 0 imax imax u3 max": {0, 1, 2, 4},
	}
	for text, idle := range cases {
		l := readLevel(t, text)
		for p := range impl.MaxParams {
			if impl.SignMerge(l, p) != slices.Contains(idle, p) {
				t.Errorf("SignMerge of %s and %d: %v", text, p, impl.SignMerge(l, p))
			}
		}
	}
}
