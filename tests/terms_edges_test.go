package tests

import (
	"math"
	"slices"
	"strings"
	"testing"
	"time"

	"loop.example/g00744/impl"
)

func TestNumbersOfTerms(t *testing.T) {
	if impl.MaxTerm != 30 || impl.TmSort != 1 || impl.TmVar != 2 || impl.TmPi != 3 || impl.TmApp != 4 || impl.TmConst != 5 {
		t.Error(impl.MaxTerm, impl.TmSort, impl.TmVar, impl.TmPi, impl.TmApp, impl.TmConst)
	}
}

// isATerm checks what is the same for every term, beside its TermOpen.
func isATerm(t *testing.T, x []impl.TTok, open int) {
	t.Helper()
	if !impl.TermOk(x) || impl.TermOpen(x) != open || impl.TermText(x) != expectedText(x) {
		t.Errorf("%v: %v, %d, %q", x, impl.TermOk(x), impl.TermOpen(x), impl.TermText(x))
	}
	if same, ok := impl.TermLift(x, 0); !ok || !sameTToks(same, x) {
		t.Errorf("%v lifted by 0 is %v, %v", x, same, ok)
	}
	if same, ok := impl.TermInst(x, levelList(t, "u0", "u1", "u2", "u3", "u4")); !ok || !sameTToks(same, x) {
		t.Errorf("TermInst of %v is %v, %v", x, same, ok)
	}
	if same, ok := impl.TermPut([]impl.TTok{varTok(0)}, x); !ok || !sameTToks(same, x) {
		t.Errorf("%v put for the variable 0 is %v, %v", x, same, ok)
	}
	if !impl.TermSame(nil, x, x) {
		t.Errorf("%v is not the same as itself", x)
	}
}

func TestTermsOfOneToken(t *testing.T) {
	isATerm(t, readTerm(t, "v0"), 1)
	isATerm(t, readTerm(t, "v99"), 100)
	isATerm(t, readTerm(t, "c0"), 0)
	isATerm(t, readTerm(t, "sort(0)"), 0)
	notATerm(t, nil)
	notATerm(t, []impl.TTok{})
	notATerm(t, []impl.TTok{piTok()})
	notATerm(t, []impl.TTok{appTok()})
}

// A term has one leaf more than it has other tokens, so that no term has just
// MaxTerm tokens.
func TestMaxTermTokens(t *testing.T) {
	for _, leaf := range []impl.TTok{sortTok(tower(24)), constTok(4), varTok(3)} {
		for _, op := range []impl.TTok{piTok(), appTok()} {
			for _, build := range []func(leaf, op impl.TTok, n int) []impl.TTok{spine, nest} {
				for n := range 15 {
					x := build(leaf, op, n)
					isATerm(t, x, namedOf(x).open())
					notATerm(t, append(x, leaf))
					notATerm(t, append(x, op))
				}
				for _, n := range []int{15, 16, 29, 30, 127, 128, 1000, 100000} {
					notATerm(t, build(leaf, op, n))
				}
			}
		}
	}
	notATerm(t, slices.Repeat([]impl.TTok{varTok(0)}, 30))
	notATerm(t, slices.Repeat([]impl.TTok{piTok()}, 30))
}

// invalidInAnyPlace checks that the token makes a term invalid, as one of the
// leaves, as one of the others, and beside them.
func invalidInAnyPlace(t *testing.T, tok impl.TTok) {
	t.Helper()
	good := readTerm(t, "v0 c3 app sort(u0) v1 pi pi")
	notATerm(t, []impl.TTok{tok})
	for at := range good {
		x := copiedTerm(good)
		x[at] = tok
		notATerm(t, x)
		notATerm(t, slices.Insert(copiedTerm(good), at, tok))
	}
	notATerm(t, append(copiedTerm(good), tok))
}

func TestOpsThatAreNoneOfATerms(t *testing.T) {
	for _, op := range []int{0, -1, 6, 7, -3, 256 + impl.TmVar, 1<<32 + impl.TmVar, 1<<32 + impl.TmPi, math.MaxInt, math.MinInt} {
		invalidInAnyPlace(t, impl.TTok{Op: op})
		invalidInAnyPlace(t, impl.TTok{Op: op, Levels: levelList(t, "0")})
	}
}

func TestNsOfTermsThatAreNotValid(t *testing.T) {
	for _, n := range []int{1, -1, 2, 99, 100, 256, 1 << 32, math.MaxInt, math.MinInt} {
		for _, tok := range []impl.TTok{sortTok(tower(1)), piTok(), appTok()} {
			tok.N = n
			invalidInAnyPlace(t, tok)
		}
	}
	for _, n := range []int{-1, -2, 100, 101, 256, 1 << 32, math.MaxInt, math.MinInt} {
		invalidInAnyPlace(t, varTok(n))
		invalidInAnyPlace(t, constTok(n))
		invalidInAnyPlace(t, constTok(n, tower(1)))
	}
	for n := range 100 {
		isATerm(t, []impl.TTok{varTok(n)}, n+1)
		isATerm(t, []impl.TTok{constTok(n)}, 0)
		isATerm(t, []impl.TTok{constTok(n, tower(2))}, 0)
	}
}

func TestNumbersOfLevels(t *testing.T) {
	some := func(n int) []impl.Level { return slices.Repeat(levelList(t, "u0 s"), n) }
	for _, n := range []int{0, 1, 2, 3, 4, 5, 6, 7, 100, 256, 100000} {
		sort := impl.TTok{Op: impl.TmSort, Levels: some(n)}
		if n == 1 {
			isATerm(t, []impl.TTok{sort}, 0)
		} else {
			invalidInAnyPlace(t, sort)
		}
		declared := impl.TTok{Op: impl.TmConst, N: 8, Levels: some(n)}
		if n <= 5 {
			isATerm(t, []impl.TTok{declared}, 0)
		} else {
			invalidInAnyPlace(t, declared)
		}
		for _, tok := range []impl.TTok{varTok(0), varTok(1), piTok(), appTok()} {
			tok.Levels = some(n)
			if n > 0 {
				invalidInAnyPlace(t, tok)
			}
		}
	}
}

// An empty list that is not nil is the same as none.
func TestEmptyListsOfLevels(t *testing.T) {
	none := []impl.Level{}
	plain := readTerm(t, "c3 v0 v1 app pi")
	x := copiedTerm(plain)
	for i := range x {
		x[i].Levels = none
	}
	isATerm(t, x, 1)
	if !impl.TermSame(nil, x, plain) || !impl.TermSame(nil, plain, x) {
		t.Error("TermSame")
	}
	checkLift(t, x, 4)
	checkTermPut(t, x, x)
	checkInst(t, x, none)
	checkInst(t, x, nil)
	notATerm(t, []impl.TTok{{Op: impl.TmSort, Levels: none}})
}

func TestLevelsOfTermsThatAreNotValid(t *testing.T) {
	u0 := tower(1)
	for _, bad := range badLevels() {
		invalidInAnyPlace(t, sortTok(bad))
		invalidInAnyPlace(t, constTok(3, bad))
	}
	for _, bad := range badLevels() {
		for at := range 5 {
			levels := [][]impl.Tok{u0, u0, u0, u0, u0}
			levels[at] = bad
			notATerm(t, []impl.TTok{constTok(3, levels...)})
			notATerm(t, []impl.TTok{constTok(3, levels[:at+1]...)})
		}
		for _, tok := range []impl.TTok{varTok(0), piTok(), appTok()} {
			tok.Levels = asLevels(bad)
			invalidInAnyPlace(t, tok)
		}
	}
	isATerm(t, []impl.TTok{constTok(3, tower(24), tower(24), tower(24), tower(24), tower(24))}, 0)
}

func TestTokensThatPopTooMuchOrTooLittle(t *testing.T) {
	for _, text := range []string{
		"pi v0", "v0 pi", "v0 pi v0", "v0 app", "app v0 v0", "v0 app v0", "v0 v0 pi pi", "v0 v0 app app", "v0 v0 pi app v0", "pi pi v0 v0 v0",
		"v0 v0 v0 pi pi pi", "v0 v0 app app v0 v0", "v0 app v0 v0 app", "c0 pi sort(0) c0 pi",
		"v0 v0", "v0 v0 v0", "v0 v0 v0 pi", "v0 v0 pi v0", "v0 v0 app v0", "c0 c0", "sort(0) sort(0)", "v0 v0 v0 app v0 pi",
	} {
		notATerm(t, readTerm(t, text))
	}
}

func TestAllListsOfFewTokens(t *testing.T) {
	valid, invalid := 0, 0
	toks := goodTToks()
	places := []impl.Tok{{N: 0}, {N: 1}, {N: 2}, {N: 4}, {N: 5}, {N: 6}}
	sequences(places, 5, func(l []impl.Tok) {
		var x []impl.TTok
		for _, place := range l {
			x = append(x, toks[place.N])
		}
		n := namedOf(x)
		if impl.TermOk(x) != (n != nil) {
			t.Fatalf("TermOk(%v) = %v", x, n == nil)
		}
		if n == nil {
			invalid++
			if invalid%50 == 0 {
				notATerm(t, x)
			}
		} else {
			valid++
			isATerm(t, x, n.open())
		}
	})
	if valid < 500 || invalid < 500 {
		t.Error(valid, invalid)
	}
}

func TestOpenTerms(t *testing.T) {
	for _, x := range []struct {
		text string
		open int
	}{
		{"sort(u0) v0 v3 pi pi", 2},
		{"sort(u0)", 0}, {"c99(u4)", 0}, {"v0", 1}, {"v5", 6}, {"v99", 100},
		// In A, and in B.
		{"v0 c0 pi", 1}, {"v7 c0 pi", 8}, {"c0 v0 pi", 0}, {"c0 v1 pi", 1}, {"c0 v7 pi", 7}, {"c0 v99 pi", 99},
		{"v3 v3 pi", 4}, {"v2 v3 pi", 3}, {"v2 v4 pi", 4}, {"v0 v0 pi", 1}, {"v1 v0 pi", 2}, {"v0 v1 pi", 1},
		// The function and the argument.
		{"v2 c0 app", 3}, {"c0 v2 app", 3}, {"v1 v4 app", 5}, {"v4 v1 app", 5}, {"v0 v0 app", 1},
		// Below several TmPis: A of one within B of another, B within B, A within A, and B within A.
		{"c0 v0 c0 pi pi", 0}, {"c0 v1 c0 pi pi", 1}, {"c0 v2 c0 pi pi", 2},
		{"c0 c0 v1 pi pi", 0}, {"c0 c0 v2 pi pi", 1}, {"c0 c0 v3 pi pi", 2},
		{"v0 c0 pi c0 pi", 1}, {"v1 c0 pi c0 pi", 2},
		{"c0 v0 pi c0 pi", 0}, {"c0 v1 pi c0 pi", 1}, {"c0 v2 pi c0 pi", 2},
		{"c0 v0 pi v0 pi", 0}, {"c0 v0 pi v1 pi", 1}, {"c0 v0 c0 v1 v2 app pi pi pi", 0}, {"c0 v0 c0 v1 v3 app pi pi pi", 1}, {"c0 v0 c0 v3 v1 app pi pi pi", 1},
		// What is beside a TmPi is not bound by it.
		{"c0 v0 pi v0 app", 1}, {"v0 c0 v0 pi app", 1}, {"c0 c0 v1 pi v1 app pi", 1}, {"c0 v0 v1 app c0 v1 pi app pi", 1}, {"c0 c0 v1 pi v0 app pi", 0},
	} {
		isATerm(t, readTerm(t, x.text), x.open)
	}
	for depth := range 15 {
		for _, n := range []int{depth - 1, depth, depth + 1, 99} {
			if n < 0 {
				continue
			}
			inside := nest(constTok(0), piTok(), depth)
			inside[depth] = varTok(n)
			isATerm(t, inside, max(n-depth+1, 0))
			beside := spine(constTok(0), piTok(), depth)
			beside[0] = varTok(n)
			isATerm(t, beside, n+1)
		}
	}
}

// An index that is just that of the TmPi around it, one below, and one above.
func TestFreeOrBound(t *testing.T) {
	for _, x := range []struct {
		text, lifted, put string
	}{
		{"c0 v0 pi", "c0 v0 pi", "c0 v0 pi"},
		{"c0 v1 pi", "c0 v11 pi", "c0 c9 pi"},
		{"c0 v2 pi", "c0 v12 pi", "c0 v1 pi"},
		{"c0 c0 v0 pi pi", "c0 c0 v0 pi pi", "c0 c0 v0 pi pi"},
		{"c0 c0 v1 pi pi", "c0 c0 v1 pi pi", "c0 c0 v1 pi pi"},
		{"c0 c0 v2 pi pi", "c0 c0 v12 pi pi", "c0 c0 c9 pi pi"},
		{"c0 c0 v3 pi pi", "c0 c0 v13 pi pi", "c0 c0 v2 pi pi"},
		{"c0 v0 c0 pi pi", "c0 v0 c0 pi pi", "c0 v0 c0 pi pi"},
		{"c0 v1 c0 pi pi", "c0 v11 c0 pi pi", "c0 c9 c0 pi pi"},
		{"v0 v0 pi", "v10 v0 pi", "c9 v0 pi"},
		{"v1 v1 pi", "v11 v11 pi", "v0 c9 pi"},
		{"v0 v1 pi v2 app", "v10 v11 pi v12 app", "c9 c9 pi v1 app"},
		{"v2 v0 v1 pi app", "v12 v10 v11 pi app", "v1 c9 c9 pi app"},
		{"c0 v0 pi v0 app", "c0 v0 pi v10 app", "c0 v0 pi c9 app"},
		{"v0 c0 v0 pi app", "v10 c0 v0 pi app", "c9 c0 v0 pi app"},
		{"c0 v0 v1 app v2 app pi", "c0 v0 v11 app v12 app pi", "c0 v0 c9 app v1 app pi"},
		{"v0 v0 v1 pi v1 v2 v3 app pi app pi", "v10 v0 v1 pi v11 v12 v13 app pi app pi", "c9 v0 v1 pi c9 c9 v2 app pi app pi"},
	} {
		up, ok := impl.TermLift(readTerm(t, x.text), 10)
		if !ok || impl.TermText(up) != x.lifted {
			t.Errorf("%s is lifted to %s, %v", x.text, impl.TermText(up), ok)
		}
		put, ok := impl.TermPut(readTerm(t, x.text), readTerm(t, "c9"))
		if !ok || impl.TermText(put) != x.put {
			t.Errorf("%s with c9 is %s, %v", x.text, impl.TermText(put), ok)
		}
		checkLift(t, readTerm(t, x.text), 10)
		checkTermPut(t, readTerm(t, x.text), readTerm(t, "c9"))
	}
}

func TestLiftsThatAreNotValid(t *testing.T) {
	for _, x := range append(readTerms(t, "c0", "v0", "v0 v0 pi", "sort(u0) v0 pi"), longTerms()...) {
		for _, n := range []int{-1, -2, 100, 101, 199, 256, 1 << 32, math.MaxInt, math.MaxInt - 98, math.MinInt, math.MinInt + 1} {
			refusedLift(t, x, n)
		}
	}
}

func TestLiftsUpToTheGreatestIndex(t *testing.T) {
	for n := range 100 {
		x := []impl.TTok{varTok(99 - n)}
		if up, ok := impl.TermLift(x, n); !ok || !sameTToks(up, []impl.TTok{varTok(99)}) {
			t.Errorf("v%d lifted by %d is %v, %v", 99-n, n, up, ok)
		}
		refusedLift(t, x, n+1)
		refusedLift(t, []impl.TTok{varTok(99)}, n+1)
		for depth := range 15 {
			y := nest(constTok(0), piTok(), depth)
			y[depth] = varTok(max(99-n, depth))
			up, ok := checkLift(t, y, min(n, 99-depth))
			if !ok || up[depth].N != 99 {
				t.Errorf("%v lifted by %d is %v, %v", y, n, up, ok)
			}
			refusedLift(t, y, min(n, 99-depth)+1)
		}
	}
	// An index that is bound does not become too great.
	if up, ok := impl.TermLift(readTerm(t, "v0 v0 pi c99(u4) app"), 99); !ok || impl.TermText(up) != "v99 v0 pi c99(u4) app" {
		t.Error(up, ok)
	}
	if up, ok := impl.TermLift(readTerm(t, "sort(u4) v0 v0 pi pi"), 99); !ok || impl.TermText(up) != "sort(u4) v0 v0 pi pi" {
		t.Error(up, ok)
	}
	refusedLift(t, readTerm(t, "v0 v1 v0 pi app"), 99)
}

func TestPutExamples(t *testing.T) {
	for _, x := range []struct {
		text, put, want string
	}{
		// It occurs never, once, and several times.
		{"c0", "v3", "c0"}, {"v1", "v3", "v0"}, {"v99", "v3", "v98"}, {"v1 v2 app", "v3", "v0 v1 app"},
		{"v0", "v3", "v3"}, {"v0", "v0", "v0"}, {"v0 v0 app", "v3", "v3 v3 app"}, {"v0 v1 app v0 app", "v3 v4 app", "v3 v4 app v0 app v3 v4 app app"},
		// At different depths, with a term that has free variables of its own.
		{"v0 v1 c0 pi pi", "v3", "v3 v4 c0 pi pi"},
		{"v0 v1 v2 pi pi", "v3", "v3 v4 v5 pi pi"},
		{"v0 v1 v2 v3 pi pi pi v0 app", "v0 v7 app", "v0 v7 app v1 v8 app v2 v9 app v3 v10 app pi pi pi v0 v7 app app"},
		{"c0 v1 pi v0 pi", "v3", "c0 v4 pi v0 pi"}, {"c0 v1 pi v1 pi", "v3", "c0 v4 pi v4 pi"},
		{"v0 c1 pi c2 pi", "v3", "v3 c1 pi c2 pi"},
		// Of the term itself, what it binds stays as it is.
		{"c0 v1 pi", "c1 v0 pi", "c0 c1 v0 pi pi"}, {"c0 v1 pi", "c1 v1 pi", "c0 c1 v2 pi pi"}, {"c0 v1 pi", "v0 v0 v2 app pi", "c0 v1 v0 v3 app pi pi"},
		{"c0 c0 v2 pi pi", "v0 v0 v1 v2 v3 app app pi pi", "c0 c0 v2 v0 v1 v4 v5 app app pi pi pi pi"},
		// The levels of both stay as they are.
		{"sort(u0) v1 c4(u1 s, 0) app pi", "c3(u2, u3 s)", "sort(u0) c3(u2, u3 s) c4(u1 s, 0) app pi"},
		{"sort(u0 s) v1 pi", "sort(u1) v1 pi", "sort(u0 s) sort(u1) v2 pi pi"},
	} {
		put, ok := impl.TermPut(readTerm(t, x.text), readTerm(t, x.put))
		if !ok || impl.TermText(put) != x.want {
			t.Errorf("%s with %s is %s, %v, not %s", x.text, x.put, impl.TermText(put), ok, x.want)
		}
		checkTermPut(t, readTerm(t, x.text), readTerm(t, x.put))
	}
}

// Of n leaves, each of which becomes a term of k leaves, there are n * k.
func TestPutsOfMaxTermTokens(t *testing.T) {
	fits, over := 0, 0
	for n := 1; n <= 15; n++ {
		for k := 1; k <= 15; k++ {
			for _, op := range []impl.TTok{piTok(), appTok()} {
				x := spine(varTok(0), appTok(), n-1)
				y := spine(varTok(2), op, k-1)
				tokens := 2*n*k - 1
				put, ok := checkTermPut(t, x, y)
				if ok != (tokens <= 30) || ok && len(put) != tokens {
					t.Errorf("%d tokens: %v, %v", tokens, put, ok)
				}
				switch tokens {
				case 29:
					fits++
				case 31:
					over++
				}
			}
		}
	}
	// As products of two numbers up to 15, 15 leaves come about in four ways for
	// each op, and 16 in three.
	if fits != 8 || over != 6 {
		t.Error(fits, over)
	}
	long := spine(varTok(1), appTok(), 14)
	if put, ok := impl.TermPut(readTerm(t, "c0 v0 pi"), long); !ok || len(put) != 3 {
		t.Error("what is put nowhere makes a term too long")
	}
	refusedTermPut(t, readTerm(t, "v0 c0 app"), long)
	refusedTermPut(t, readTerm(t, "c0 v0 app"), long)
}

func TestPutsUpToTheGreatestIndex(t *testing.T) {
	for depth := range 15 {
		x := nest(constTok(0), piTok(), depth)
		x[depth] = varTok(depth)
		for n := range 100 {
			put, ok := checkTermPut(t, x, []impl.TTok{varTok(n)})
			if ok != (n+depth <= 99) || ok && put[depth].N != n+depth {
				t.Errorf("%v with v%d is %v, %v", x, n, put, ok)
			}
		}
		// What is bound in the term that is put is not lifted.
		if y := readTerm(t, "c0 v0 v99 app pi"); depth < 12 && depth > 0 {
			refusedTermPut(t, x, y)
		}
	}
	refusedTermPut(t, readTerm(t, "v0 v1 pi"), readTerm(t, "v99"))
	refusedTermPut(t, readTerm(t, "v0 v1 pi"), readTerm(t, "c0 v99 pi v99 app"))
	if put, ok := impl.TermPut(readTerm(t, "v0 v0 pi"), readTerm(t, "v99")); !ok || impl.TermText(put) != "v99 v0 pi" {
		t.Error(put, ok)
	}
	if put, ok := impl.TermPut(readTerm(t, "c0 v99 pi"), readTerm(t, "v99")); !ok || impl.TermText(put) != "c0 v98 pi" {
		t.Error(put, ok)
	}
}

func TestTermsThatAreNotValidAreNotPut(t *testing.T) {
	bad := append(readTerms(t, "v100", "pi", "v0 v0", "c0(0, 0, 0, 0, 0, 0)"), nil, spine(varTok(0), appTok(), 15), []impl.TTok{sortTok(nil)})
	for _, y := range bad {
		for _, x := range append(readTerms(t, "v0", "v1", "c0", "c0 v0 pi"), bad...) {
			refusedTermPut(t, x, y)
			refusedTermPut(t, y, x)
		}
	}
}

func TestInstExamples(t *testing.T) {
	x := readTerm(t, "sort(u0) c3(u1 s, u0, 0, u1 u0 imax) v1 app v0 pi pi")
	for _, c := range []struct {
		with []impl.Level
		want string
	}{
		{levelList(t, "0 s", "u4"), "sort(0 s) c3(u4 s, 0 s, 0, u4 0 s imax) v1 app v0 pi pi"},
		{levelList(t, "u1", "u0"), "sort(u1) c3(u0 s, u1, 0, u0 u1 imax) v1 app v0 pi pi"},
		{levelList(t, "u0 u0 max", "0", "u3", "u3", "u3", "u3", "u3"), "sort(u0 u0 max) c3(0 s, u0 u0 max, 0, 0 u0 u0 max imax) v1 app v0 pi pi"},
	} {
		if inst, ok := impl.TermInst(x, c.with); !ok || impl.TermText(inst) != c.want {
			t.Errorf("%v: %s, %v, not %s", c.with, impl.TermText(inst), ok, c.want)
		}
	}
	if inst, ok := impl.TermInst(readTerm(t, "v0 c5 v1 app pi"), nil); !ok || impl.TermText(inst) != "v0 c5 v1 app pi" {
		t.Error("a term without levels needs no levels")
	}
	if inst, ok := impl.TermInst(readTerm(t, "sort(0 s) c0(0) pi"), nil); !ok || impl.TermText(inst) != "sort(0 s) c0(0) pi" {
		t.Error("levels without parameters need no levels")
	}
}

func TestTooFewLevelsToInst(t *testing.T) {
	for p := range 5 {
		l := []impl.Tok{{Op: impl.OpParam, N: p}}
		zero := tower(1)
		for _, x := range [][]impl.TTok{{sortTok(l)}, {constTok(1, l)}, {constTok(1, zero, l)}, {varTok(0), constTok(1, l, zero, l), appTok()}, {sortTok(zero), sortTok(l), piTok()}} {
			enough := slices.Repeat(levelList(t, "u3 s"), max(p, 1)+1)
			checkInst(t, x, enough)
			checkInst(t, x, enough[:p+1])
			refusedInst(t, x, enough[:p])
			refusedInst(t, x, nil)
		}
	}
}

func TestInstWithLevelsThatAreNotValid(t *testing.T) {
	good := levelList(t, "u0", "u1", "u2", "u3", "u4", "u0 s")
	for _, bad := range badLevels() {
		for at := range good {
			with := slices.Clone(good)
			with[at] = impl.Level{Toks: bad}
			// Also where no level has that parameter, and where there is no level.
			for _, x := range readTerms(t, "sort(u0)", "c3(u1)", "sort(0)", "c3", "v0", "sort(u0) v0 pi") {
				refusedInst(t, x, with)
				refusedInst(t, x, with[:at+1])
				refusedInst(t, x, append(slices.Repeat(good, 20), with[at]))
			}
		}
	}
}

func TestInstToLevelsThatAreTooLong(t *testing.T) {
	for n := 1; n <= 24; n++ {
		for _, x := range []string{"sort(u1)", "c0(u1, u1, u1, u1, u1)", "v0 sort(u1) app"} {
			with := asLevels(tower(1), tower(n))
			if _, ok := checkInst(t, readTerm(t, x), with); !ok {
				t.Errorf("%s fails for %d tokens", x, n)
			}
		}
		for _, x := range []string{"sort(u1 s)", "c0(u0, u1 s)", "sort(0) c0(0, 0, 0, 0, u1 s) app"} {
			if _, ok := checkInst(t, readTerm(t, x), asLevels(tower(1), tower(n))); ok != (n < 24) {
				t.Errorf("%s for %d tokens: %v", x, n, ok)
			}
		}
		if _, ok := checkInst(t, readTerm(t, "c0(0, u1 u1 max)"), asLevels(tower(1), tower(n))); ok != (n < 12) {
			t.Errorf("%d tokens twice: %v", n, ok)
		}
	}
}

func TestSameUnderListsThatAreNotValid(t *testing.T) {
	invalid := [][]impl.Con{{scribbleCon}, {le(0, 5)}, {le(-2, 0)}, {{Rel: 3}}, append(fullList(), le(0, 0)), make([]impl.Con, 25)}
	for _, list := range invalid {
		for _, x := range readTerms(t, "sort(0)", "sort(u0)", "c0(u0)", "c0 sort(0) app", "sort(u0) v0 pi") {
			if impl.TermSame(list, x, x) {
				t.Errorf("%v is the same as itself under %v", x, list)
			}
		}
		// Without levels, there is nothing to ask of the list.
		for _, x := range readTerms(t, "v0", "c0", "v0 v0 pi", "c3 v0 app") {
			if !impl.TermSame(list, x, x) || impl.TermSame(list, x, readTerm(t, "v1")) {
				t.Errorf("%v under %v", x, list)
			}
		}
	}
}

func TestSameUnderContradictions(t *testing.T) {
	full := fullList()
	full[23] = lt(3, 0)
	for _, list := range [][]impl.Con{{lt(0, 0)}, {lt(3, -1)}, {lt(0, 1), lt(1, 0)}, full} {
		for _, two := range [][2]string{{"sort(0)", "sort(u3 s)"}, {"c4(u0, u1)", "c4(u1 s, 0)"}, {"sort(0) v0 pi", "sort(u0) v0 pi"}} {
			a, b := readTerm(t, two[0]), readTerm(t, two[1])
			if !impl.TermSame(list, a, b) || !impl.TermSame(list, b, a) || impl.TermSame(nil, a, b) {
				t.Errorf("%s and %s under %v", two[0], two[1], list)
			}
		}
		for _, two := range [][2]string{{"v0", "v1"}, {"v0", "c0"}, {"c0(u0)", "c0"}, {"c0(u0)", "c1(u0)"}, {"c0(u0)", "sort(u0)"}, {"c0(u0)", "c0(u0, u0)"}, {"v0 v0 pi", "v0 v0 app"}, {"v0", "v0 v0 app"}} {
			a, b := readTerm(t, two[0]), readTerm(t, two[1])
			if impl.TermSame(list, a, b) || impl.TermSame(list, b, a) {
				t.Errorf("%s and %s are the same under %v", two[0], two[1], list)
			}
		}
	}
}

func TestTermsOfDifferentLengthsAreNotTheSame(t *testing.T) {
	for _, op := range []impl.TTok{piTok(), appTok()} {
		for n := range 15 {
			for m := range 15 {
				a, b := spine(varTok(0), op, n), spine(varTok(0), op, m)
				if impl.TermSame(nil, a, b) != (n == m) || impl.TermSame(nil, nest(varTok(0), op, n), nest(varTok(0), op, m)) != (n == m) {
					t.Errorf("%v and %v", a, b)
				}
			}
		}
	}
	if impl.TermSame(nil, nil, nil) {
		t.Error("no term is the same as itself")
	}
}

func TestTermsThatDifferInOneToken(t *testing.T) {
	x := readTerm(t, "sort(u0) c3(u1 s, u0, 0) v1 app v0 c7 v2 app pi pi pi")
	isATerm(t, x, 1)
	for i, tok := range x {
		for _, other := range []impl.TTok{varTok(0), varTok(1), varTok(2), varTok(99), constTok(3), constTok(7), constTok(0), piTok(), appTok(), sortTok(tower(1)), sortTok(tower(2)),
			constTok(3, tower(2), tower(1)), constTok(3, tower(2), tower(1), tower(1)), {Op: tok.Op, N: tok.N + 1, Levels: tok.Levels}, {Op: tok.Op, N: tok.N, Levels: append(slices.Clone(tok.Levels), impl.Level{Toks: tower(1)})}} {
			y := copiedTerm(x)
			y[i] = other
			want := namedOf(y) != nil && expectedSame(nil, x, y)
			if impl.TermSame(nil, x, y) != want || impl.TermSame(nil, y, x) != want {
				t.Errorf("%v and %v: %v", x, y, !want)
			}
		}
	}
	// A level that differs, in each place.
	y := []impl.TTok{constTok(3, readLevels(t, "u0", "u1", "u2", "u3", "u4")...)}
	for at := range 5 {
		z := copiedTerm(y)
		z[0].Levels[at].Toks = readLevel(t, "0 s")
		if impl.TermSame(nil, y, z) || impl.TermSame(nil, z, y) || !impl.TermSame([]impl.Con{lt(0, 0)}, y, z) {
			t.Errorf("%v and %v", y, z)
		}
	}
}

func TestLevelsThatAreEqualUnderTheListOnly(t *testing.T) {
	for _, x := range []struct {
		a, b string
		list []impl.Con
	}{
		{"sort(u0)", "sort(u1)", []impl.Con{eq(0, 1)}},
		{"sort(u0)", "sort(u1)", []impl.Con{le(0, 1), le(1, 0)}},
		{"sort(u0 u1 max)", "sort(u1)", []impl.Con{lt(0, 1)}},
		{"sort(u2 u0 imax)", "sort(0)", []impl.Con{le(0, -1)}},
		{"sort(u2 u0 imax)", "sort(u2 u0 max)", []impl.Con{lt(-1, 0)}},
		{"c3(u0, u2)", "c3(u1, 0)", []impl.Con{eq(1, 0), eq(2, -1)}},
		{"c3(u1 s) sort(u0 s u2 max) app", "c3(u2 s) sort(u2) app", []impl.Con{eq(1, 2), lt(0, 2)}},
	} {
		a, b := readTerm(t, x.a), readTerm(t, x.b)
		if !impl.TermSame(x.list, a, b) || !impl.TermSame(x.list, b, a) || impl.TermSame(nil, a, b) || impl.TermSame(nil, b, a) || impl.TermSame(x.list[1:], a, b) {
			t.Errorf("%s and %s under %v", x.a, x.b, x.list)
		}
	}
	// The list relates the levels in one direction only.
	if a, b := readTerm(t, "sort(u0)"), readTerm(t, "sort(u1)"); impl.TermSame([]impl.Con{le(0, 1)}, a, b) || impl.TermSame([]impl.Con{le(1, 0)}, a, b) {
		t.Error("one direction is enough")
	}
	// Different tokens, the same values.
	if a, b := readTerm(t, "sort(u0 u1 max)"), readTerm(t, "sort(u1 u0 max 0 max)"); !impl.TermSame(nil, a, b) {
		t.Error("levels with the same values are not the same")
	}
}

func TestTextsOfTerms(t *testing.T) {
	for _, x := range []struct {
		term []impl.TTok
		text string
	}{
		{[]impl.TTok{constTok(12, readLevels(t, "u0", "u1 s")...)}, "c12(u0, u1 s)"},
		{[]impl.TTok{constTok(12)}, "c12"},
		{[]impl.TTok{constTok(0)}, "c0"},
		{[]impl.TTok{constTok(99, readLevels(t, "0")...)}, "c99(0)"},
		{[]impl.TTok{constTok(7, readLevels(t, "0", "0", "u4", "u0 u1 imax", "0 s s")...)}, "c7(0, 0, u4, u0 u1 imax, 0 s s)"},
		{[]impl.TTok{sortTok(readLevel(t, "u0 s u1 imax"))}, "sort(u0 s u1 imax)"},
		{[]impl.TTok{varTok(0)}, "v0"},
		{[]impl.TTok{varTok(99)}, "v99"},
		{[]impl.TTok{varTok(10), varTok(0), piTok()}, "v10 v0 pi"},
		{[]impl.TTok{varTok(1), constTok(2), appTok()}, "v1 c2 app"},
		{[]impl.TTok{sortTok(readLevel(t, "u0")), varTok(0), varTok(3), piTok(), piTok()}, "sort(u0) v0 v3 pi pi"},
		{[]impl.TTok{constTok(1, readLevels(t, "u2", "0 s")...), sortTok(readLevel(t, "0")), appTok(), varTok(5), piTok()}, "c1(u2, 0 s) sort(0) app v5 pi"},
	} {
		if text := impl.TermText(x.term); text != x.text {
			t.Errorf("%v is %q, not %q", x.term, text, x.text)
		}
	}
	texts := map[string][]impl.TTok{}
	for _, x := range append(shortTerms(5), someTerms()...) {
		text := impl.TermText(x)
		if text != expectedText(x) || !sameTToks(readTerm(t, text), x) || strings.Contains(text, "  ") {
			t.Fatalf("%v is %q", x, text)
		}
		if other := texts[text]; other != nil && !sameTToks(x, other) {
			t.Fatalf("%v and %v are both %q", x, other, text)
		}
		texts[text] = x
	}
}

func TestTermsReturnInGoodTime(t *testing.T) {
	within(t, time.Minute, func() {
		all := []impl.TTok{constTok(99, underLevels()[27:32]...)}
		wide := spine(all[0], appTok(), 14)
		impl.TermSame(fullList(), wide, wide)
		impl.TermSame(nil, wide, copiedTerm(wide))
		checkTermPut(t, spine(varTok(0), appTok(), 14), wide)
		checkTermPut(t, nest(varTok(14), piTok(), 14), wide)
		many := slices.Repeat(asLevels(tower(24)), 1000000)
		impl.TermInst(spine(constTok(1, tower(1), tower(1), tower(1), tower(1), tower(1)), piTok(), 14), slices.Concat(asLevels(tower(1), tower(1)), many))
		impl.TermInst(wide, make([]impl.Level, 1000000))
		huge := make([]impl.TTok, 1000000)
		for _, x := range [][]impl.TTok{huge, spine(varTok(0), appTok(), 1000000), nest(varTok(0), piTok(), 1000000), {{Op: impl.TmConst, Levels: many}}, {{Op: impl.TmSort, Levels: many}}, {sortTok(make([]impl.Tok, 1000000))}} {
			notATerm(t, x)
		}
		impl.TermSame(make([]impl.Con, 1000000), wide, wide)
	})
}
