package tests

import (
	"slices"
	"testing"

	"loop.example/g00744/impl"
)

func TestLevelEvalExamples(t *testing.T) {
	cases := []struct {
		text string
		env  []int
		want int
	}{
		{"0", []int{9, 9, 9, 9, 9}, 0},
		{"u3", []int{1, 2, 3, 4, 5}, 4},
		{"0 s s", []int{9, 9, 9, 9, 9}, 2},
		{"u0 s u1 imax", []int{3, 0, 0, 0, 0}, 0},
		{"u0 s u1 imax", []int{3, 2, 0, 0, 0}, 4},
		{"u0 u1 imax", []int{0, 7, 0, 0, 0}, 7},
		{"u0 u1 max", []int{3, 0, 0, 0, 0}, 3},
		{"u0 u1 max", []int{3, 8, 0, 0, 0}, 8},
		{"u0 0 s imax", []int{0, 0, 0, 0, 0}, 1},
		{"u0 u1 imax s", []int{5, 0, 0, 0, 0}, 1},
		{"u0 u1 u2 imax imax", []int{5, 4, 0, 0, 0}, 0},
		{"u0 u1 u2 imax imax", []int{5, 4, 1, 0, 0}, 5},
		{"0 0 imax", []int{0, 0, 0, 0, 0}, 0},
	}
	for _, c := range cases {
		if v := evalLevel(t, readLevel(t, c.text), c.env); v != c.want {
			t.Errorf("%s for %v: %d, not %d", c.text, c.env, v, c.want)
		}
	}
}

func TestLevelEvalIsTheTreesValue(t *testing.T) {
	envs := envsOver(0, 2, 5)
	for _, l := range append(shortLevels(5), longLevels(t)...) {
		x := treeOf(l)
		for _, env := range envs {
			if v := evalLevel(t, l, env); v != x.value(env) {
				t.Fatalf("%v for %v: %d, not %d", l, env, v, x.value(env))
			}
		}
	}
}

// The short levels have only the parameters 0, 1 and 4, so the envs vary only in these.
func TestPromise3JoinsHaveTheirValues(t *testing.T) {
	var envs [][]int
	for _, env := range envsOver(0, 1, 3) {
		if env[2] == 0 && env[3] == 0 {
			envs = append(envs, env)
		}
	}
	levels := shortLevels(3)
	for _, a := range levels {
		for _, b := range levels {
			greater, okMax := impl.LevelJoin(impl.OpMax, a, b)
			guarded, okImax := impl.LevelJoin(impl.OpImax, a, b)
			if !okMax || !okImax {
				t.Fatalf("no join of %v and %v", a, b)
			}
			for _, env := range envs {
				checkJoin(t, a, b, greater, guarded, env)
			}
		}
	}
}

func checkJoin(t *testing.T, a, b, greater, guarded []impl.Tok, env []int) {
	t.Helper()
	x, y := evalLevel(t, a, env), evalLevel(t, b, env)
	if v := evalLevel(t, greater, env); v != max(x, y) {
		t.Fatalf("max of %v and %v for %v: %d, not %d", a, b, env, v, max(x, y))
	}
	want := max(x, y)
	if y == 0 {
		want = 0
	}
	if v := evalLevel(t, guarded, env); v != want {
		t.Fatalf("imax of %v and %v for %v: %d, not %d", a, b, env, v, want)
	}
}

func TestPromise3JoinTokens(t *testing.T) {
	a, b := readLevel(t, "u0 s"), readLevel(t, "0")
	j, ok := impl.LevelJoin(impl.OpImax, a, b)
	if !ok || impl.LevelText(j) != "u0 s 0 imax" {
		t.Error(j, ok)
	}
	j, ok = impl.LevelJoin(impl.OpMax, b, a)
	if !ok || impl.LevelText(j) != "0 u0 s max" {
		t.Error(j, ok)
	}
	c := readLevel(t, "0 s")
	j, ok = impl.LevelJoin(impl.OpImax, a, c)
	if !ok || evalLevel(t, j, []int{6, 0, 0, 0, 0}) != 7 {
		t.Error(j, ok)
	}
	j, ok = impl.LevelJoin(impl.OpImax, a, b)
	if !ok || evalLevel(t, j, []int{6, 0, 0, 0, 0}) != 0 {
		t.Error(j, ok)
	}
}

func TestPromise3SuccessorsHaveTheirValues(t *testing.T) {
	envs := envsOver(0, 1, 4)
	for _, l := range append(shortLevels(4), longLevels(t)...) {
		for n := range impl.MaxLevel + 2 {
			s, ok := impl.LevelSucc(l, n)
			if ok != (len(l)+n <= impl.MaxLevel) {
				t.Fatalf("LevelSucc(%v, %d): %v", l, n, ok)
			}
			if !ok {
				continue
			}
			if len(s) != len(l)+n || !slices.Equal(s[:len(l)], l) || impl.LevelOff(s) != impl.LevelOff(l)+n {
				t.Fatalf("LevelSucc(%v, %d) = %v", l, n, s)
			}
			env := envs[(n*31+len(l))%len(envs)]
			if evalLevel(t, s, env) != evalLevel(t, l, env)+n {
				t.Fatalf("LevelSucc(%v, %d) for %v", l, n, env)
			}
		}
	}
}

func TestPromise3SubstitutionsHaveTheirValues(t *testing.T) {
	lists := [][]string{
		{"u1", "u0", "u3", "u2", "u4"},
		{"0", "0", "0", "0", "0"},
		{"u1 s", "u0 u1 imax", "u2", "u3", "u0 u4 max"},
		{"u4 u0 imax", "0 s s", "0", "0", "u1", "u2 s"},
	}
	envs := envsOver(0, 2)
	for _, texts := range lists {
		var with []impl.Level
		for _, x := range texts {
			with = append(with, impl.Level{Toks: readLevel(t, x)})
		}
		for _, l := range shortLevels(5) {
			s, ok := impl.LevelSubst(l, with)
			if !ok {
				t.Fatalf("LevelSubst(%v, %v) failed", l, texts)
			}
			for _, env := range envs {
				inner := zeroEnv()
				for p := range inner {
					inner[p] = evalLevel(t, with[p].Toks, env)
				}
				if evalLevel(t, s, env) != evalLevel(t, l, inner) {
					t.Fatalf("LevelSubst(%v, %v) = %v for %v", l, texts, s, env)
				}
			}
		}
	}
}

// All parameters are replaced at once: what a replacement brings in stays.
func TestPromise3SubstitutionTokens(t *testing.T) {
	l := readLevel(t, "u0 s u1 imax u0 max")
	with := []impl.Level{{Toks: readLevel(t, "u1 s")}, {Toks: readLevel(t, "u0 0 max")}}
	s, ok := impl.LevelSubst(l, with)
	if !ok || impl.LevelText(s) != "u1 s s u0 0 max imax u1 s max" {
		t.Error(impl.LevelText(s), ok)
	}
}

func TestPromise3DependsOnlyOnItsParams(t *testing.T) {
	envs := envsOver(0, 1, 3)
	for _, l := range append(shortLevels(4), longLevels(t)...) {
		params := impl.LevelParams(l)
		if !slices.Equal(params, paramsOf(l)) {
			t.Fatalf("LevelParams(%v) = %v", l, params)
		}
		for _, env := range envs {
			v := evalLevel(t, l, env)
			other := slices.Clone(env)
			for p := range other {
				if !slices.Contains(params, p) {
					other[p] = (other[p]*7 + 2) % 11
				}
			}
			if evalLevel(t, l, other) != v {
				t.Fatalf("%v differs for %v and %v", l, env, other)
			}
		}
	}
}

func paramsOf(l []impl.Tok) []int {
	var out []int
	for _, x := range l {
		if x.Op == impl.OpParam && !slices.Contains(out, x.N) {
			out = append(out, x.N)
		}
	}
	slices.Sort(out)
	return out
}

func TestPromise3GreaterParamsNeverMakeItSmaller(t *testing.T) {
	envs := envsOver(0, 1, 3)
	for _, l := range append(shortLevels(5), longLevels(t)...) {
		for _, env := range envs {
			v := evalLevel(t, l, env)
			for _, p := range paramsOf(l) {
				for _, more := range []int{1, 5, impl.MaxNum - env[p]} {
					greater := slices.Clone(env)
					greater[p] += more
					if evalLevel(t, l, greater) < v {
						t.Fatalf("%v is smaller for %v than for %v", l, greater, env)
					}
				}
			}
		}
	}
}

func TestPromise3LevelIsReadFromItsText(t *testing.T) {
	for _, l := range append(shortLevels(5), longLevels(t)...) {
		text := impl.LevelText(l)
		back, ok := impl.LevelRead(text)
		if !ok || !slices.Equal(back, l) {
			t.Fatalf("%v is %q, which is read as %v, %v", l, text, back, ok)
		}
	}
	l := []impl.Tok{{Op: 4, N: 0}, {Op: 4, N: 1}, {Op: 4, N: 2}, {Op: 4, N: 3}, {Op: 4, N: 4}, {Op: 0}, {Op: 1}, {Op: 2}, {Op: 3}, {Op: 2}, {Op: 3}, {Op: 2}}
	if text := impl.LevelText(l); text != "u0 u1 u2 u3 u4 0 s max imax max imax max" {
		t.Errorf("%q", text)
	}
}
