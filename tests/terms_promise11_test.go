package tests

import (
	"slices"
	"testing"

	"loop.example/g00744/impl"
)

func TestPromise11PuttingIntoALiftedTermRestoresIt(t *testing.T) {
	restored := 0
	for k, x := range append(shortTerms(5), someTerms()...) {
		up, ok := checkLift(t, x, 1)
		if !ok {
			continue
		}
		for i, y := range putTerms(t) {
			if len(x) < 29 && (i+k)%3 > 0 {
				continue
			}
			back, ok := impl.TermPut(up, y)
			if !ok || !sameTToks(back, x) {
				t.Fatalf("%v was lifted to %v, and with %v put in is %v, %v", x, up, y, back, ok)
			}
			restored++
		}
	}
	if restored < 5000 {
		t.Error("few terms were lifted:", restored)
	}
}

func TestPromise11PuttingTakesOneLiftBack(t *testing.T) {
	lifts := []int{1, 2, 3, 13, 14, 15, 50, 84, 85, 97, 98, 99}
	taken := 0
	for k, x := range append(shortTerms(5), someTerms()...) {
		y := putTerms(t)[k%len(putTerms(t))]
		for _, n := range lifts {
			up, ok := impl.TermLift(x, n)
			if !ok {
				continue
			}
			want, _ := impl.TermLift(x, n-1)
			if back, ok := impl.TermPut(up, y); !ok || !sameTToks(back, want) {
				t.Fatalf("%v was lifted by %d to %v, and with %v put in is %v, %v, not %v", x, n, up, y, back, ok, want)
			}
			taken++
		}
	}
	if taken < 5000 {
		t.Error("few terms were lifted:", taken)
	}
}

// closedTerms have TermOpen 0 by the oracle of the tests.
func closedTerms() [][]impl.TTok {
	return slices.DeleteFunc(slices.Concat(shortTerms(5), someTerms()), func(x []impl.TTok) bool { return namedOf(x).open() > 0 })
}

func TestPromise11ClosedTermsAreUnchanged(t *testing.T) {
	closed := closedTerms()
	if len(closed) < 100 {
		t.Error("few terms are closed:", len(closed))
	}
	for k, x := range closed {
		if impl.TermOpen(x) != 0 {
			t.Fatalf("TermOpen(%v) = %d", x, impl.TermOpen(x))
		}
		for n := k % 3; n < 100; n += 3 {
			if up, ok := impl.TermLift(x, n); !ok || !sameTToks(up, x) {
				t.Fatalf("%v lifted by %d is %v, %v", x, n, up, ok)
			}
		}
		for _, y := range putTerms(t) {
			if put, ok := impl.TermPut(x, y); !ok || !sameTToks(put, x) {
				t.Fatalf("%v with %v put in is %v, %v", x, y, put, ok)
			}
		}
	}
}

func TestPromise11OpenIsTheLeastBound(t *testing.T) {
	for _, x := range append(shortTerms(5), someTerms()...) {
		open := impl.TermOpen(x)
		if open != namedOf(x).open() {
			t.Fatalf("TermOpen(%v) = %d", x, open)
		}
		up, ok := impl.TermLift(x, 1)
		if ok && open > 0 && impl.TermOpen(up) != open+1 {
			t.Fatalf("TermOpen(%v) = %d, and %d when lifted by 1", x, open, impl.TermOpen(up))
		}
	}
}

func TestPromise11LiftIsThatOfTheNamedTerm(t *testing.T) {
	failed := 0
	for k, x := range append(shortTerms(5), someTerms()...) {
		every := []int{1, 9}[min(k/500, 1)]
		for n := k % every; n < 100; n += every {
			if _, ok := checkLift(t, x, n); !ok {
				failed++
			}
		}
	}
	if failed < 100 {
		t.Error("few indices become too great:", failed)
	}
}

func TestPromise11TwoLiftsAreOne(t *testing.T) {
	for k, x := range someTerms() {
		for m := k % 7; m < 100; m += 7 {
			once, ok := impl.TermLift(x, m)
			if !ok {
				continue
			}
			for n := k % 5; m+n < 100; n += 5 {
				twice, ok := impl.TermLift(once, n)
				want, wantOk := impl.TermLift(x, m+n)
				checkTerm(t, twice, ok, want, wantOk, "TermLift twice", x, m, n)
			}
		}
	}
}

func TestPromise11PutIsThatOfTheNamedTerm(t *testing.T) {
	var failed, several int
	for k, x := range append(shortTerms(5), someTerms()...) {
		for i, y := range putTerms(t) {
			if k > 400 && k < 1000 && (i+k)%4 > 0 {
				continue
			}
			if _, ok := checkTermPut(t, x, y); !ok {
				failed++
			} else if namedOf(x).occurs(0) > 1 {
				several++
			}
		}
	}
	for k, x := range someTerms() {
		checkTermPut(t, x, someTerms()[k*31%len(someTerms())])
	}
	if failed < 100 || several < 100 {
		t.Errorf("%d failed, and in %d the variable occurs more than once", failed, several)
	}
}

// Two terms can be put in either order, if each is lifted over what the other
// one takes away.
func TestPromise11TwoPutsCommute(t *testing.T) {
	terms := shortTerms(3)
	checked := 0
	for k, x := range append(shortTerms(5), someTerms()...) {
		y, z := terms[k%len(terms)], terms[k*7%len(terms)]
		first, ok1 := impl.TermPut(x, y)
		both, ok2 := impl.TermPut(first, z)
		swapped, ok3 := swapLast(x)
		lifted, ok4 := impl.TermLift(z, 1)
		later, ok5 := impl.TermPut(y, z)
		other, ok6 := impl.TermPut(swapped, lifted)
		want, ok7 := impl.TermPut(other, later)
		if !ok1 || !ok2 || !ok3 || !ok4 || !ok5 || !ok6 || !ok7 {
			continue
		}
		checked++
		if !sameTToks(both, want) {
			t.Fatalf("%v with %v and then %v put in is %v, and in the other order %v", x, y, z, both, want)
		}
	}
	if checked < 1000 {
		t.Error("few terms have room for two:", checked)
	}
}

// swapLast exchanges the free variables 0 and 1.
func swapLast(x []impl.TTok) ([]impl.TTok, bool) {
	n := namedOf(x)
	n.swap()
	return validTerm(n.tokens())
}

func (n *named) swap() {
	if n.isFree() && n.free < 2 {
		n.free = 1 - n.free
	}
	if n.a != nil {
		n.a.swap()
		n.b.swap()
	}
}

func TestPromise11InstReplacesEveryLevelAndNothingElse(t *testing.T) {
	var failed, fine int
	for k, x := range append(shortTerms(5), someTerms()...) {
		for i, with := range instLists(t) {
			if k > 300 && k < 1000 && (i+k)%5 > 0 {
				continue
			}
			if _, ok := checkInst(t, x, with); ok {
				fine++
			} else {
				failed++
			}
		}
	}
	if failed < 500 || fine < 500 {
		t.Errorf("%d failed, and %d did not", failed, fine)
	}
}

func instLists(t *testing.T) [][]impl.Level {
	t.Helper()
	return append(substitutes(t), nil, levelList(t, "0"), levelList(t, "u4", "u3"), levelList(t, "0", "0 s", "0 s s", "0", "u0 u0 imax"), levelList(t, "u1", "u2", "u3", "u4", "u0", "u0", "0"),
		asLevels(tower(24), tower(24), tower(24), tower(24), tower(24)), asLevels(tower(2), tower(3), tower(1), tower(1), tower(23)))
}

func TestPromise11InstAtTheParametersThemselves(t *testing.T) {
	for _, x := range someTerms() {
		if same, ok := impl.TermInst(x, substitutes(t)[0]); !ok || !sameTToks(same, x) {
			t.Fatalf("%v becomes %v, %v", x, same, ok)
		}
	}
}

// Indices and levels have nothing to do with one another.
func TestPromise11InstCommutesWithLiftAndPut(t *testing.T) {
	done := 0
	for k, x := range someTerms() {
		y := putTerms(t)[k%len(putTerms(t))]
		for _, with := range instLists(t) {
			instX, okX := impl.TermInst(x, with)
			instY, okY := impl.TermInst(y, with)
			if !okX || !okY {
				continue
			}
			for _, n := range []int{0, 1, 40, 99} {
				want, wantOk := impl.TermLift(instX, n)
				up, ok := impl.TermLift(x, n)
				if ok {
					up, ok = impl.TermInst(up, with)
				}
				checkTerm(t, up, ok, want, wantOk, "TermInst of TermLift", x, n, with)
			}
			want, wantOk := impl.TermPut(instX, instY)
			put, ok := impl.TermPut(x, y)
			if ok {
				put, ok = impl.TermInst(put, with)
			}
			checkTerm(t, put, ok, want, wantOk, "TermInst of TermPut", x, y, with)
			done++
		}
	}
	if done < 1000 {
		t.Error("few terms were instantiated:", done)
	}
}

// sameTerms differ mostly in their levels, and some of them in one place only.
func sameTerms(t *testing.T) [][]impl.TTok {
	t.Helper()
	out := readTerms(t, "v0", "v1", "c1", "c2", "v0 v0 pi", "v0 v0 app", "v0 v1 pi", "v1 v0 pi",
		"c1(u0, u1)", "c1(u1, u0)", "c1(u0, u0)", "c1(u1, u1)", "c2(u0, u1)", "c1(u0)", "c1(u1)", "c1(u0, u1, 0)", "c1(u1, u0, 0)", "c1(u0, u1, u2, u3, u4)", "c1(u1, u2, u3, u4, u0)",
		"sort(u0) v0 pi", "sort(u1) v0 pi", "sort(u0) v0 app", "sort(u0) v1 pi", "sort(u0) sort(u1) pi", "sort(u1) sort(u0) pi", "sort(u1) sort(u1) pi")
	for _, l := range underLevels() {
		out = append(out, []impl.TTok{sortTok(l)})
	}
	return out
}

func sameMatrix(list []impl.Con, terms [][]impl.TTok) [][]bool {
	var out [][]bool
	for _, a := range terms {
		var row []bool
		for _, b := range terms {
			row = append(row, impl.TermSame(list, a, b))
		}
		out = append(out, row)
	}
	return out
}

func TestPromise11SameAsksEqUnderOfTheLevels(t *testing.T) {
	terms := sameTerms(t)
	var yes, no int
	for _, list := range underLists() {
		same := sameMatrix(list, terms)
		for i, a := range terms {
			for k, b := range terms {
				if want := expectedSame(list, a, b); same[i][k] != want {
					t.Fatalf("TermSame(%v, %v, %v) = %v", list, a, b, !want)
				}
				if same[i][k] && i != k {
					yes++
				} else if !same[i][k] && len(a) == len(b) {
					no++
				}
			}
		}
	}
	if yes < 1000 || no < 1000 {
		t.Errorf("%d are the same, and %d are not", yes, no)
	}
}

func TestPromise11SameIsAnEquivalence(t *testing.T) {
	terms := sameTerms(t)
	for _, list := range append(underLists(), []impl.Con{eq(0, 1), eq(2, 3)}, []impl.Con{lt(0, 0)}, fullList()) {
		same := sameMatrix(list, terms)
		for i := range terms {
			if !same[i][i] {
				t.Fatalf("%v is not the same as itself under %v", terms[i], list)
			}
			for k := range terms {
				if same[i][k] != same[k][i] {
					t.Fatalf("%v is the same as %v under %v, but not the other way round", terms[i], terms[k], list)
				}
				// Those that are the same as one another are the same as just the same ones.
				if same[i][k] && !slices.Equal(same[i], same[k]) {
					t.Fatalf("%v is the same as %v under %v, but not as all that this is the same as", terms[i], terms[k], list)
				}
			}
		}
	}
}

func TestPromise11EveryTermIsTheSameAsItself(t *testing.T) {
	lists := underLists()
	for k, x := range append(shortTerms(5), someTerms()...) {
		for i := k % 5; i < len(lists); i += 5 {
			if !impl.TermSame(lists[i], x, copiedTerm(x)) {
				t.Fatalf("%v is not the same as itself under %v", x, lists[i])
			}
		}
	}
}

// Without constraints that relate the levels, different terms are not the same.
func TestPromise11DifferentTermsAreNotTheSame(t *testing.T) {
	terms := shortTerms(5)
	for i, x := range terms {
		for k := (i + 1) % 23; k < len(terms); k += 23 {
			if k != i && (impl.TermSame(nil, x, terms[k]) || impl.TermSame([]impl.Con{lt(0, 0)}, x, terms[k])) {
				t.Fatalf("%v and %v are the same", x, terms[k])
			}
		}
	}
}

func TestPromise11MoreConstraintsKeepWhatIsTheSame(t *testing.T) {
	terms, all := sameTerms(t), allCons()
	var kept, news int
	for i, list := range underLists() {
		same := sameMatrix(list, terms)
		for c := i * 5; c < len(all); c += 97 {
			more := sameMatrix(withCon(list, all[c]), terms)
			for a := range terms {
				for b := range terms {
					if same[a][b] && !more[a][b] {
						t.Fatalf("%v and %v are the same under %v, but not with %v", terms[a], terms[b], list, all[c])
					}
					if same[a][b] && a != b {
						kept++
					} else if more[a][b] && a != b {
						news++
					}
				}
			}
		}
	}
	if kept < 1000 || news < 1000 {
		t.Errorf("%d stay the same, and %d become the same", kept, news)
	}
}

// What is the same stays the same when it is lifted and put.
func TestPromise11SameTermsHaveTheSamePlace(t *testing.T) {
	terms := sameTerms(t)
	list := []impl.Con{eq(0, 1), lt(1, 2)}
	done := 0
	for i, a := range terms {
		for k, b := range terms {
			if i == k || !impl.TermSame(list, a, b) {
				continue
			}
			upA, _ := impl.TermLift(a, 3)
			upB, _ := impl.TermLift(b, 3)
			into := readTerm(t, "v0 v1 c3 v0 app pi v0 app pi")
			putA, _ := impl.TermPut(into, a)
			putB, _ := impl.TermPut(into, b)
			if !impl.TermSame(list, upA, upB) || !impl.TermSame(list, putA, putB) {
				t.Fatalf("%v and %v are the same under %v, but not lifted or put", a, b, list)
			}
			done++
		}
	}
	if done < 20 {
		t.Error("few terms are the same:", done)
	}
}
