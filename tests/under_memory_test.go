package tests

import (
	"fmt"
	"math"
	"slices"
	"testing"

	"loop.example/g00744/impl"
)

// askUnder calls every function of chapter 6 that takes levels, overwrites what
// they return, and tells what it was.
func askUnder(list []impl.Con, a, b []impl.Tok) string {
	said := fmt.Sprint(impl.LeUnder(list, a, b), impl.LeUnder(list, b, a), impl.EqUnder(list, a, b))
	for _, x := range [][2][]impl.Tok{{a, b}, {b, a}, {a, a}} {
		env, ok := impl.Witness(list, x[0], x[1])
		said += fmt.Sprint(env, ok)
		scribble(env, -7)
	}
	pairs := []impl.Pair{{A: a, B: b}, {A: b, Less: true, B: a}}
	said += fmt.Sprint(impl.PairsUnder(list, pairs), impl.PairsUnder(list, pairs[:1]), impl.PairsUnder(list, pairs[1:]), impl.PairsUnder(list, nil))
	with := []impl.Level{{Toks: a}, {Toks: b}, {Toks: b}}
	pairs, ok := impl.ConsSubst(list, with)
	said += fmt.Sprint(pairs, ok)
	scribblePairs(pairs)
	return said
}

func scribblePairs(pairs []impl.Pair) {
	for _, p := range pairs {
		scribble(p.A, scribbleTok)
		scribble(p.B, scribbleTok)
	}
	scribble(pairs, impl.Pair{A: []impl.Tok{scribbleTok}, Less: true})
}

// askSign calls the functions of chapter 6 that take a sign.
func askSign(list []impl.Con, sign int, x impl.Atom, n []impl.Atom) string {
	env, ok := impl.SignEnv(list, sign)
	said := fmt.Sprint(env, ok, impl.AtomUnder(list, sign, x, n))
	scribble(env, -7)
	return said
}

func TestComparingModifiesAndSharesNothing(t *testing.T) {
	for _, behind := range []impl.Con{le(0, 0), lt(0, 0), scribbleCon} {
		for _, plain := range append(underLists(), memoryLists()...) {
			list := spare(plain, behind)
			a, b := spare(readLevel(t, "u0 s u1 imax"), behindTok), spare(readLevel(t, "u2"), behindTok)
			n := spare([]impl.Atom{{Param: 0, Off: 1}, {Param: 1}}, behindAtom)
			keptList, keptA, keptB, keptN := whole(list), whole(a), whole(b), whole(n)
			askUnder(list, a, b)
			askUnder(list, a[:2], b)
			askUnder(list, a[:0], b[:0])
			for _, sign := range []int{0, 3, 7, impl.MaxSign, -1} {
				askSign(list, sign, n[0], n)
				askSign(list, sign, n[1], n[:0])
			}
			if !slices.Equal(whole(list), keptList) || !slices.Equal(whole(n), keptN) {
				t.Errorf("%v or its atoms were modified, or are shared with a result", plain)
			}
			if !slices.Equal(whole(a), keptA) || !slices.Equal(whole(b), keptB) {
				t.Errorf("a level was modified under %v, or is shared with a result", plain)
			}
		}
	}
}

// The levels of these pairs have room for the token that Less appends.
func TestPairsAreLeftAlone(t *testing.T) {
	a, b := spare(readLevel(t, "u0"), behindTok), spare(readLevel(t, "u1"), behindTok)
	pairs := spare([]impl.Pair{{A: a, Less: true, B: b}, {A: b, B: b}, {A: a, Less: true, B: a}}, impl.Pair{})
	a[:2][1], b[:2][1] = scribbleTok, scribbleTok
	keptA, keptB := whole(a), whole(b)
	if impl.PairsUnder([]impl.Con{lt(0, 1)}, pairs) || !impl.PairsUnder([]impl.Con{lt(0, 1)}, pairs[:2]) {
		t.Error("PairsUnder")
	}
	if !slices.Equal(whole(a), keptA) || !slices.Equal(whole(b), keptB) {
		t.Error("a level of a pair was modified")
	}
	for i, p := range whole(pairs) {
		if i < 3 && (p.Less != (i != 1) || len(p.A) != 1 || len(p.B) != 1) || i >= 3 && (p.A != nil || p.B != nil || p.Less) {
			t.Errorf("the pair %d was modified: %v", i, p)
		}
	}
}

// pairLevels are the levels of the pairs, each A before its B.
func pairLevels(pairs []impl.Pair) [][]impl.Tok {
	var out [][]impl.Tok
	for _, p := range pairs {
		out = append(out, p.A, p.B)
	}
	return out
}

func TestPairsShareNothingWithTheLevels(t *testing.T) {
	list := []impl.Con{eq(0, 1), lt(1, 0), le(0, 0), eq(1, 1), eq(-1, 0), le(-1, -1), eq(-1, -1)}
	x, y := spare(readLevel(t, "u0 s u1 imax"), behindTok), spare(readLevel(t, "u2"), behindTok)
	with := spare([]impl.Level{{Toks: x}, {Toks: y}}, impl.Level{})
	keptX, keptY := whole(x), whole(y)
	want := pairLevels(pairsOf(t, list, with))
	if len(want) != 22 {
		t.Fatal(len(want))
	}
	// Each level is overwritten in turn, and nothing else may change.
	for i := range want {
		levels := pairLevels(pairsOf(t, list, with))
		scribble(levels[i], scribbleTok)
		for k, again := range pairLevels(pairsOf(t, list, with)) {
			if k != i && !slices.Equal(levels[k], want[k]) {
				t.Errorf("levels %d and %d of the pairs are shared", i, k)
			}
			if !slices.Equal(again, want[k]) {
				t.Errorf("level %d of the pairs is shared with level %d of a later result", i, k)
			}
		}
		if !slices.Equal(whole(x), keptX) || !slices.Equal(whole(y), keptY) {
			t.Fatalf("level %d of the pairs is shared with one of the levels given", i)
		}
	}
	for i, l := range whole(with) {
		if i >= 2 && l.Toks != nil || i < 2 && len(l.Toks) == 0 {
			t.Error("the list of levels was modified")
		}
	}
}

func TestTwoEnvsShareNothing(t *testing.T) {
	list := []impl.Con{lt(0, 1), le(1, 2)}
	a, b := readLevel(t, "u1"), readLevel(t, "u0 s s")
	env, other := witness(t, list, a, b), witness(t, list, a, b)
	scribble(env, -7)
	if want := []int{0, 200, 200, 0, 0}; !slices.Equal(other, want) || !slices.Equal(witness(t, list, a, b), want) {
		t.Error("Witness", other)
	}
	least, otherLeast := signEnv(t, list, 7), signEnv(t, list, 7)
	scribble(least, -7)
	if want := []int{1, 2, 2, 0, 0}; !slices.Equal(otherLeast, want) || !slices.Equal(signEnv(t, list, 7), want) {
		t.Error("SignEnv", otherLeast)
	}
}

// What stands behind the length is not valid, or changes the comparison.
func TestComparingReadsNothingBehindTheLength(t *testing.T) {
	for _, plain := range append(underLists(), memoryLists()...) {
		for _, texts := range [][2]string{{"u0 s", "u1"}, {"u1", "u0 s s"}, {"u0 u1 imax", "u2"}} {
			a, b := readLevel(t, texts[0]), readLevel(t, texts[1])
			want := askUnder(plain, a, b)
			for _, behind := range []impl.Con{le(0, 0), lt(0, 0), le(1, 0), lt(0, 2), scribbleCon} {
				for _, tok := range []impl.Tok{behindTok, scribbleTok} {
					if said := askUnder(spare(plain, behind), spare(a, tok), spare(b, tok)); said != want {
						t.Errorf("%v with %v behind it: %s, not %s", plain, behind, said, want)
					}
				}
			}
		}
		for _, sign := range []int{0, 2, 3, 7, impl.MaxSign} {
			n := []impl.Atom{{Param: -1, Off: 2}}
			want := askSign(plain, sign, n[0], n)
			if said := askSign(spare(plain, lt(0, 0)), sign, n[0], spare(n, behindAtom)); said != want {
				t.Errorf("%v and the sign %d: %s, not %s", plain, sign, said, want)
			}
		}
	}
	with := levelList(t, "u0", "u1")
	noPairs(t, []impl.Con{lt(0, 1)}, with[:1])
	pairs := []impl.Pair{{A: readLevel(t, "u0"), B: readLevel(t, "u0")}, {}}
	if !impl.PairsUnder(nil, pairs[:1]) || impl.PairsUnder(nil, pairs) {
		t.Error("a pair behind the length is read")
	}
}

// The same memory holds another list, level and residual each time, so that
// anything kept for the one before would show.
func TestComparingKeepsNoState(t *testing.T) {
	memory, level := []impl.Con{lt(0, 1), le(1, 2)}, readLevel(t, "u1 s")
	n := []impl.Atom{{Param: 1, Off: 1}}
	for range 3 {
		for _, u := range sides() {
			for _, v := range []int{1, 2, 3} {
				memory[1], level[0].N, n[0].Param = le(u, v), v, v
				r := realmOf(memory)
				for sign := range signCount {
					if r.admits(sign) != slices.Contains(impl.ConsSigns(memory), sign) {
						t.Fatalf("ConsSigns(%v)", memory)
					}
					up := r.admits(sign) && positive(sign)[v]
					if impl.AtomUnder(memory, sign, number(2)[0], n) != up {
						t.Fatalf("AtomUnder(%v, %d, 2, %v) = %v", memory, sign, n, !up)
					}
				}
				below := readLevel(t, "u0")
				want := !r.wide.meets(levelRow(below).above(0, levelRow(level)))
				if impl.LeUnder(memory, below, level) != want {
					t.Fatalf("LeUnder(%v, %v, %v) = %v", memory, below, level, !want)
				}
				askUnder(memory, level, below)
				askUnder([]impl.Con{lt(0, 0)}, level, below)
				askUnder([]impl.Con{scribbleCon}, level[1:], below)
			}
		}
	}
}

func TestComparisonsDoNotDependOnTheOrderOfCalls(t *testing.T) {
	type call struct {
		list []impl.Con
		a, b []impl.Tok
	}
	var calls []call
	for i, list := range append(underLists(), memoryLists()...) {
		for _, p := range somePairs(i*17, 71) {
			a, b := p.levels()
			calls = append(calls, call{list, a, b})
		}
	}
	ask := func(i int) string {
		c := calls[i]
		return askUnder(c.list, c.a, c.b) + askSign(c.list, i%signCount, impl.Atom{Param: i%6 - 1}, number(i%3))
	}
	var forward []string
	for i := range calls {
		forward = append(forward, ask(i))
	}
	for i := len(calls) - 1; i >= 0; i-- {
		if said := ask(i); said != forward[i] {
			t.Fatalf("%s for %v, and %s before", said, calls[i], forward[i])
		}
	}
}

func TestNoComparisonUnderAListPanics(t *testing.T) {
	numbers := []int{math.MinInt, math.MinInt + 1, -2, -1, 0, 1, 4, 5, 31, 32, 1000, 1001, math.MaxInt - 1, math.MaxInt}
	lists := [][]impl.Con{nil, {lt(0, 1)}, {lt(0, 0)}, make([]impl.Con, 100000), fullList(), append(fullList(), lt(0, 1))}
	for _, u := range numbers {
		for _, v := range numbers {
			lists = append(lists, []impl.Con{{U: u, Rel: impl.RelEq, V: v}}, []impl.Con{lt(0, 1), {U: 0, Rel: u, V: v}})
		}
	}
	levels := append(badLevels(), make([]impl.Tok, 100000), tower(impl.MaxLevel), readLevel(t, "u0 u1 imax"), []impl.Tok{{Op: math.MaxInt, N: math.MinInt}})
	for i, list := range lists {
		for k, a := range levels {
			askUnder(list, a, levels[(i+k)%len(levels)])
		}
		impl.ConsSubst(list, make([]impl.Level, 1000))
		impl.PairsUnder(list, make([]impl.Pair, 1000))
		for _, sign := range numbers {
			askSign(list, sign, impl.Atom{Param: -1, Off: 1}, number(1))
		}
	}
	atoms := [][]impl.Atom{nil, {}, make([]impl.Atom, 100000)}
	for _, p := range numbers {
		for _, off := range numbers {
			atoms = append(atoms, []impl.Atom{{Param: p, Off: off}}, []impl.Atom{{Param: -1, Off: off}, {Param: p, Off: 1}})
		}
	}
	for _, n := range atoms {
		for _, m := range atoms[3:] {
			impl.AtomUnder([]impl.Con{lt(0, 1)}, 3, m[0], n)
		}
		for _, sign := range numbers {
			impl.AtomUnder(nil, sign, impl.Atom{Param: 0}, n)
		}
	}
}
