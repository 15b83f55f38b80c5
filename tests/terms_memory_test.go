package tests

import (
	"fmt"
	"math"
	"slices"
	"testing"

	"loop.example/g00744/impl"
)

var scribbleTTok = impl.TTok{Op: 77, N: 77}

func spareLevels(list []impl.Level, behind impl.Tok) []impl.Level {
	var out []impl.Level
	for _, l := range list {
		out = append(out, impl.Level{Toks: spare(l.Toks, behind)})
	}
	return spare(out, impl.Level{Toks: []impl.Tok{behind}})
}

// spareTerm is the term with room behind each of its slices, in which stands
// what would make it another one.
func spareTerm(x []impl.TTok, behind impl.TTok, behindLevel impl.Tok) []impl.TTok {
	out := slices.Clone(x)
	for i, tok := range out {
		out[i].Levels = spareLevels(tok.Levels, behindLevel)
	}
	return spare(out, behind)
}

// wholeLevels tells everything in the memory of the levels.
func wholeLevels(list []impl.Level) string {
	said := ""
	for _, l := range whole(list) {
		said += fmt.Sprint(len(l.Toks), whole(l.Toks))
	}
	return said
}

func wholeTerm(x []impl.TTok) string {
	said := ""
	for _, tok := range whole(x) {
		said += fmt.Sprint(tok.Op, tok.N, len(tok.Levels)) + wholeLevels(tok.Levels)
	}
	return said
}

// slicesOfTerm tells of each slice without what is in those within it.
func slicesOfTerm(x []impl.TTok) []returned {
	out := []returned{{func() { scribble(x, scribbleTTok) }, func() string {
		said := ""
		for _, tok := range x {
			said += fmt.Sprint(tok.Op, tok.N, len(tok.Levels), " ")
		}
		return said
	}}}
	for _, tok := range x {
		levels := tok.Levels
		out = append(out, returned{func() { scribble(levels, impl.Level{}) }, func() string {
			said := ""
			for _, l := range levels {
				said += fmt.Sprint(len(l.Toks), " ")
			}
			return said
		}})
		for _, l := range levels {
			out = append(out, returnedList(l.Toks, scribbleTok))
		}
	}
	return out
}

// scribbleTerm overwrites the innermost slices first.
func scribbleTerm(x []impl.TTok) {
	for _, s := range slices.Backward(slicesOfTerm(x)) {
		s.overwrite()
	}
}

// A termCall has the arguments of every function of chapter 9.
type termCall struct {
	list []impl.Con
	x, y []impl.TTok
	n    int
	with []impl.Level
}

func (c termCall) results() [][]impl.TTok {
	inst, _ := impl.TermInst(c.x, c.with)
	up, _ := impl.TermLift(c.x, c.n)
	put, _ := impl.TermPut(c.x, c.y)
	self, _ := impl.TermPut(c.x, c.x)
	return [][]impl.TTok{inst, up, put, self}
}

// ask calls every function of chapter 9, overwrites what they return, and tells
// what it was.
func (c termCall) ask() string {
	inst, okInst := impl.TermInst(c.x, c.with)
	up, okUp := impl.TermLift(c.x, c.n)
	put, okPut := impl.TermPut(c.x, c.y)
	self, okSelf := impl.TermPut(c.x, c.x)
	said := fmt.Sprint(impl.TermOk(c.x), impl.TermOpen(c.x), impl.TermText(c.x), inst, okInst, up, okUp, put, okPut, self, okSelf,
		impl.TermSame(c.list, c.x, c.y), impl.TermSame(c.list, c.y, c.x), impl.TermSame(c.list, c.x, c.x))
	for _, out := range [][]impl.TTok{inst, up, put, self} {
		scribbleTerm(out)
	}
	return said
}

func (c termCall) tell() string {
	return fmt.Sprint(whole(c.list), wholeTerm(c.x), wholeTerm(c.y), wholeLevels(c.with))
}

func (c termCall) withSpare(behind impl.TTok, behindLevel impl.Tok, behindCon impl.Con) termCall {
	return termCall{spare(c.list, behindCon), spareTerm(c.x, behind, behindLevel), spareTerm(c.y, behind, behindLevel), c.n, spareLevels(c.with, behindLevel)}
}

// termCalls succeed with some of the functions, and fail with others.
func termCalls(t *testing.T) []termCall {
	t.Helper()
	list := []impl.Con{eq(0, 1), lt(1, 2)}
	with := levelList(t, "u1 s", "u0", "0", "u3 u4 imax", "u4")
	x := readTerm(t, "sort(u0) c3(u1 s, u0, 0) v1 app v0 c7(u2, u2) v2 app pi pi pi")
	y := readTerm(t, "c5(u3, u1 s) v0 app sort(u0 u1 max) v1 pi app")
	var out []termCall
	for i, text := range []string{"v0", "c0", "c3(u0, u1)", "sort(u1)", "v0 v0 app v1 v0 pi app", "c4(u2) c4(u2) c4(u2) app app", "v99 v0 pi", "v0 v0", "pi", "c0(0, 0, 0, 0, 0, 0)"} {
		z := readTerm(t, text)
		out = append(out, termCall{list, x, z, i * 9, with}, termCall{nil, z, y, 1, with[:i%6]}, termCall{list, z, z, 0, with})
	}
	return append(out,
		termCall{list, x, y, 1, with}, termCall{list, y, x, 99, with}, termCall{list, x, x, 100, nil}, termCall{nil, nil, nil, 0, nil}, termCall{nil, x, nil, -1, []impl.Level{{}}},
		termCall{list, readTerm(t, "c3(u0, u2)"), readTerm(t, "c3(u1, u2)"), 7, with},
		termCall{[]impl.Con{lt(0, 0)}, readTerm(t, "c3(u0, u2)"), readTerm(t, "c3(u1, 0)"), 7, with},
		termCall{[]impl.Con{scribbleCon}, readTerm(t, "c3(u0, u2)"), readTerm(t, "c3(u0, u2)"), 7, with},
		termCall{fullList(), spine(varTok(0), appTok(), 4), readTerm(t, "c3(u0, u2)"), 7, with},
		termCall{fullList(), nest(varTok(2), piTok(), 4), readTerm(t, "c3(u0, u2) v0 pi"), 95, with},
		termCall{fullList(), spine(constTok(1, tower(24), tower(24)), piTok(), 14), spine(constTok(1, tower(24), tower(24)), piTok(), 14), 3, asLevels(tower(1), tower(1))},
	)
}

func TestTermsModifyAndShareNothing(t *testing.T) {
	for k, plain := range termCalls(t) {
		leftAlone(t, k, plain, plain.withSpare(piTok(), behindTok, le(0, 0)))
	}
}

func TestTermsReadNothingBehindTheLength(t *testing.T) {
	behind := []impl.TTok{piTok(), appTok(), varTok(0), varTok(99), constTok(3), sortTok(tower(1)), scribbleTTok, {}}
	cons := []impl.Con{le(0, 0), lt(0, 0), lt(1, 0), eq(0, 2), scribbleCon}
	for k, plain := range termCalls(t) {
		want := plain.ask()
		for i, tok := range behind {
			c := plain.withSpare(tok, []impl.Tok{behindTok, scribbleTok, {}}[i%3], cons[i%5])
			if said := c.ask(); said != want {
				t.Errorf("call %d with %v behind it: %s, not %s", k, tok, said, want)
			}
		}
	}
	long := spine(varTok(0), appTok(), 100)
	for n := range 201 {
		if impl.TermOk(long[:n]) != (n%2 == 1 && n < 30) {
			t.Errorf("%d of 201 tokens", n)
		}
	}
	notATerm(t, long[:0])
	with := levelList(t, "u0", "u1")
	refusedInst(t, readTerm(t, "sort(u1)"), with[:1])
	levels := levelList(t, "0", "0", "0", "0", "0", "0")
	notATerm(t, []impl.TTok{{Op: impl.TmSort, Levels: levels[:0]}})
	isATerm(t, []impl.TTok{{Op: impl.TmSort, Levels: levels[:1]}}, 0)
	isATerm(t, []impl.TTok{{Op: impl.TmConst, Levels: levels[:5]}}, 0)
	isATerm(t, []impl.TTok{{Op: impl.TmVar, Levels: levels[:0]}}, 1)
}

// Each slice of a result is overwritten in turn, with the room behind it, and no
// other one may change.
func TestSlicesOfOneTermShareNothing(t *testing.T) {
	shared := constTok(2, readLevels(t, "u0 s", "u1", "u0 s")...)
	same := asLevels(shared.Levels[0].Toks, shared.Levels[0].Toks)
	// The levels of these terms share their memory with one another.
	calls := append(termCalls(t),
		termCall{nil, spine(shared, piTok(), 4), []impl.TTok{shared}, 2, same},
		termCall{nil, spine(varTok(0), piTok(), 1), spine(shared, appTok(), 3), 2, same},
		termCall{nil, []impl.TTok{{Op: impl.TmConst, Levels: same}, varTok(0), varTok(0), appTok(), appTok()}, []impl.TTok{{Op: impl.TmConst, Levels: same}}, 2, same})
	for k, c := range calls {
		for r, out := range c.results() {
			for i := range slicesOfTerm(out) {
				all := slicesOfTerm(copiedTerm(out))
				fresh := slicesOfTerm(c.results()[r])
				fresh[i].overwrite()
				for m, s := range fresh {
					if m != i && s.tell() != all[m].tell() {
						t.Fatalf("slices %d and %d of result %d of call %d are shared: %s, not %s", i, m, r, k, s.tell(), all[m].tell())
					}
				}
			}
		}
	}
}

func TestTwoTermsShareNothing(t *testing.T) {
	for k, c := range termCalls(t) {
		more := func() [][]impl.TTok {
			all := append(c.results(), c.results()...)
			return append(all, termCall{c.list, all[1], all[2], c.n, c.with}.results()...)
		}
		for i := range more() {
			all := more()
			want := fmt.Sprint(all[:i], all[i+1:])
			scribbleTerm(all[i])
			if got := fmt.Sprint(all[:i], all[i+1:]); got != want {
				t.Errorf("result %d of call %d is shared: %s, not %s", i, k, got, want)
			}
		}
	}
}

// The same memory holds another term each time, so that anything kept for the
// one before would show.
func TestTermsKeepNoState(t *testing.T) {
	x := readTerm(t, "v0 c3(u0) sort(u1) app pi")
	with := levelList(t, "u0", "u1 s")
	list := []impl.Con{eq(0, 1)}
	other := copiedTerm(x)
	for range 2 {
		for _, tok := range append(goodTToks(), varTok(99), varTok(100), constTok(1)) {
			for at := range x {
				kept := x[at]
				x[at] = tok
				for _, p := range []int{0, 1, 2, 5} {
					with[0].Toks[0].N, list[0].U = p, p%3
					if namedOf(x) == nil {
						notATerm(t, x)
						continue
					}
					checkLift(t, x, p)
					checkTermPut(t, x, other)
					checkTermPut(t, other, x)
					if p < 5 {
						checkInst(t, x, with)
					} else {
						refusedInst(t, x, with)
					}
					if impl.TermOpen(x) != namedOf(x).open() || impl.TermText(x) != expectedText(x) || impl.TermSame(list, x, other) != expectedSame(list, x, other) {
						t.Fatal(x)
					}
				}
				x[at] = kept
			}
		}
	}
}

func TestTermsDoNotDependOnTheOrderOfCalls(t *testing.T) {
	calls := termCalls(t)
	terms := someTerms()
	for k, x := range terms {
		calls = append(calls, termCall{underLists()[k%18], x, terms[k*37%len(terms)], k % 101, substitutes(t)[k%4]})
	}
	inAnyOrder(t, calls, 1)
}

func TestNoTermPanics(t *testing.T) {
	numbers := []int{math.MinInt, math.MinInt + 1, -2, -1, 0, 1, 2, 3, 4, 5, 6, 29, 30, 99, 100, math.MaxInt - 1, math.MaxInt}
	terms := [][]impl.TTok{nil, {}, {{}}, make([]impl.TTok, 100000), spine(varTok(0), appTok(), 14), nest(varTok(99), piTok(), 15), slices.Repeat([]impl.TTok{piTok()}, 30)}
	lists := [][]impl.Level{nil, {}, {{}}, asLevels(tower(24)), asLevels(tower(25)), make([]impl.Level, 6), make([]impl.Level, 100000), asLevels(badLevels()...)}
	for _, op := range numbers {
		for i, n := range numbers {
			tok := impl.TTok{Op: op, N: n, Levels: lists[i%len(lists)]}
			terms = append(terms, []impl.TTok{tok}, []impl.TTok{{Op: op, N: n}}, []impl.TTok{varTok(0), {Op: op, N: n}}, []impl.TTok{varTok(0), varTok(1), {Op: op, N: n}}, []impl.TTok{tok, varTok(2), piTok()})
		}
	}
	for _, levels := range lists {
		for _, op := range []int{impl.TmSort, impl.TmVar, impl.TmConst} {
			terms = append(terms, []impl.TTok{{Op: op, Levels: levels}})
		}
	}
	cons := [][]impl.Con{nil, {lt(0, 1)}, {lt(0, 0)}, {scribbleCon}, make([]impl.Con, 100000), {{U: math.MinInt, Rel: math.MaxInt, V: math.MaxInt}}}
	for k, x := range terms {
		for i, n := range numbers {
			y := terms[(k*7+i)%len(terms)]
			impl.TermLift(x, n)
			impl.TermPut(x, y)
			impl.TermInst(x, lists[(k+i)%len(lists)])
			impl.TermSame(cons[(k+i)%len(cons)], x, x)
			impl.TermSame(cons[(k+i)%len(cons)], x, y)
		}
		impl.TermText(x)
		impl.TermOpen(x)
	}
}
