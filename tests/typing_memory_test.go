package tests

import (
	"fmt"
	"math"
	"slices"
	"testing"

	"loop.example/g00744/impl"
)

var scribbleDecl = impl.Decl{Params: 77, Cons: []impl.Con{scribbleCon}, Type: []impl.TTok{scribbleTTok}}

// A typingCall has the arguments of every function of chapter 10.
type typingCall struct {
	setting
	x      []impl.TTok
	n      int
	levels []impl.Level
	d      impl.Decl
}

// typingResults are what the functions of chapter 10 return.
type typingResults struct {
	typ, inst []impl.TTok
	sort      []impl.Tok
	pairs     []impl.Pair
	decls     []impl.Decl
	codes     []int
	ok        bool
}

func (c typingCall) results() typingResults {
	var r typingResults
	var code, sortCode, addCode int
	r.typ, code = c.infer(c.x)
	r.sort, sortCode = impl.SortOf(c.list, c.decls, c.ctx, c.x)
	r.inst, r.pairs, r.ok = impl.InstOf(c.decls, c.n, c.levels)
	r.decls, addCode = impl.DeclAdd(c.decls, c.d)
	r.codes = []int{code, sortCode, addCode, impl.DeclCheck(c.decls, c.d)}
	return r
}

func slicesOfDecl(d impl.Decl) []returned {
	return append(slicesOfTerm(d.Type), returnedList(d.Cons, scribbleCon))
}

func slicesOfDecls(list []impl.Decl) []returned {
	out := []returned{{func() { scribble(list, scribbleDecl) }, func() string {
		said := ""
		for _, d := range list {
			said += fmt.Sprint(d.Params, len(d.Cons), len(d.Type), " ")
		}
		return said
	}}}
	for _, d := range list {
		out = append(out, slicesOfDecl(d)...)
	}
	return out
}

func slicesOfPairs(pairs []impl.Pair) []returned {
	out := []returned{{func() { scribble(pairs, impl.Pair{Less: true}) }, func() string {
		said := ""
		for _, p := range pairs {
			said += fmt.Sprint(len(p.A), p.Less, len(p.B), " ")
		}
		return said
	}}}
	for _, p := range pairs {
		out = append(out, returnedList(p.A, scribbleTok), returnedList(p.B, scribbleTok))
	}
	return out
}

func (r typingResults) slices() []returned {
	return slices.Concat(slicesOfTerm(r.typ), slicesOfTerm(r.inst), []returned{returnedList(r.sort, scribbleTok)}, slicesOfPairs(r.pairs), slicesOfDecls(r.decls))
}

// ask calls every function of chapter 10, overwrites what they return, and tells
// what it was.
func (c typingCall) ask() string {
	r := c.results()
	said := fmt.Sprint(r, impl.CtxOk(c.ctx), impl.DeclsOk(c.decls), impl.DeclsOk([]impl.Decl{c.d}))
	for _, s := range slices.Backward(r.slices()) {
		s.overwrite()
	}
	return said
}

func wholeDecls(list []impl.Decl) string {
	said := ""
	for _, d := range whole(list) {
		said += fmt.Sprint(d.Params, len(d.Cons), whole(d.Cons)) + wholeTerm(d.Type)
	}
	return said
}

func wholeTerms(list []impl.Term) string {
	said := ""
	for _, x := range whole(list) {
		said += fmt.Sprint(len(x.Toks)) + wholeTerm(x.Toks)
	}
	return said
}

func (c typingCall) tell() string {
	return fmt.Sprint(whole(c.list), wholeDecls(c.decls), wholeTerms(c.ctx), wholeTerm(c.x), wholeLevels(c.levels), wholeDecls([]impl.Decl{c.d}))
}

// What stands behind the lengths of the arguments of a call.
type behind struct {
	con   impl.Con
	tok   impl.Tok
	ttok  impl.TTok
	decl  impl.Decl
	types impl.Term
}

func (b behind) term(x []impl.TTok) []impl.TTok {
	return spareTerm(x, b.ttok, b.tok)
}

func (b behind) decls(list ...impl.Decl) []impl.Decl {
	var out []impl.Decl
	for _, d := range list {
		out = append(out, impl.Decl{Params: d.Params, Cons: spare(d.Cons, b.con), Type: b.term(d.Type)})
	}
	return spare(out, b.decl)
}

func (c typingCall) withSpare(b behind) typingCall {
	var ctx []impl.Term
	for _, a := range c.ctx {
		ctx = append(ctx, impl.Term{Toks: b.term(a.Toks)})
	}
	s := setting{spare(c.list, b.con), b.decls(c.decls...), spare(ctx, b.types)}
	return typingCall{s, b.term(c.x), c.n, spareLevels(c.levels, b.tok), b.decls(c.d)[0]}
}

// typingCalls succeed with some of the functions, and fail with others.
func typingCalls(t *testing.T) []typingCall {
	t.Helper()
	decls := library(t)
	families := setting{[]impl.Con{lt(0, 1), lt(1, 2), eq(3, 4)}, decls, append(families(t), ctxOf(t, "v2")...)}
	own := ownUse(9, decls[9])[0].Levels
	d := declOf(t, 2, "sort(u0) c6(u0, u1) v0 app pi", lt(0, 1), le(-1, 0))
	var out []typingCall
	for n, text := range []string{
		"sort(u0 s)", "v0", "v1", "v2", "v3", "c9(u0, u1, u2, u3, u4)", "c5(u0, u1 s)", "c5(u0, u1) v3 app", "c5(u0, u1) v3 app v2 app", "v1 v0 app", "v3 v3 v0 app pi", "v3 v4 v5 v6 pi pi pi",
		"c3(u0) v3 app v0 app", "c4(u0) v3 app", "c10 sort(0) app", "c11 c2(0 s) sort(0) app app", "sort(u0) v0 v1 pi pi", "c2(u0) c2(u0) v3 app app c0 pi", "v9", "c1 c0 pi", "c0 c0 app", "v1 v1 app", "c99", "c6(u1, u0)", sortText(24), "pi",
	} {
		levels := own
		if n < len(decls) {
			levels = own[:decls[n].Params]
		}
		out = append(out, typingCall{families, readTerm(t, text), n, levels, d}, typingCall{families.under(lt(0, 0)), readTerm(t, text), n - 1, levels, decls[min(n, 13)]})
	}
	full := slices.Repeat(decls[:4], 5)
	for _, s := range settings(t) {
		for k, x := range readTerms(t, "sort(u0) sort(u1) v1 pi pi", "v0", "c2(0) c0 app", "c1") {
			out = append(out, typingCall{s, x, k, own[:min(k, 1)], d}, typingCall{setting{s.list, full, s.ctx}, x, k * 5, own[:k], d})
		}
	}
	for _, bad := range invalidDecls(t)[:12] {
		out = append(out, typingCall{families, readTerm(t, "v0"), 0, nil, bad}, typingCall{setting{nil, []impl.Decl{decls[0], bad}, nil}, readTerm(t, "c0"), 0, nil, d})
	}
	crowd := slices.Repeat(ctxOf(t, "c0"), 21)
	return append(out,
		typingCall{}, typingCall{setting{nil, full[:19], crowd[:20]}, readTerm(t, "v19"), 18, own[:1], d}, typingCall{setting{nil, full, crowd[:19]}, readTerm(t, "c0 c0 pi"), 19, own[:1], d},
		typingCall{setting{nil, slices.Repeat(full, 2)[:21], crowd[:19]}, readTerm(t, "c0 c0 pi"), 19, own[:1], d}, typingCall{setting{nil, full, crowd}, readTerm(t, "c0 c0 pi"), 19, own[:1], d})
}

func spareBehind(t *testing.T) behind {
	t.Helper()
	return behind{le(0, 0), behindTok, piTok(), declOf(t, 1, "sort(u0)", le(0, 0)), impl.Term{Toks: readTerm(t, "c1")}}
}

func TestTypingModifiesAndSharesNothing(t *testing.T) {
	for k, plain := range typingCalls(t) {
		leftAlone(t, k, plain, plain.withSpare(spareBehind(t)))
	}
}

func TestTypingReadsNothingBehindTheLength(t *testing.T) {
	behinds := []behind{
		spareBehind(t),
		{lt(0, 0), scribbleTok, varTok(0), declOf(t, 0, "sort(0)"), impl.Term{Toks: readTerm(t, "sort(0)")}},
		{lt(1, 0), impl.Tok{}, appTok(), scribbleDecl, impl.Term{}},
		{scribbleCon, impl.Tok{Op: impl.OpParam, N: 1}, scribbleTTok, impl.Decl{}, impl.Term{Toks: readTerm(t, "v50")}},
		{eq(0, 1), behindTok, constTok(0), declOf(t, 5, "c14"), impl.Term{Toks: readTerm(t, "c0 v0 pi")}},
	}
	for k, plain := range typingCalls(t) {
		want := plain.ask()
		for i, b := range behinds {
			if said := plain.withSpare(b).ask(); said != want {
				t.Errorf("call %d with %d behind it: %s, not %s", k, i, said, want)
			}
		}
	}
	crowd := slices.Repeat(ctxOf(t, "c0"), 40)
	decls := slices.Repeat(library(t), 3)
	for n := range 41 {
		if impl.CtxOk(crowd[:n]) != (n <= 20) || impl.DeclsOk(decls[:n]) != (n <= 20) {
			t.Errorf("%d of 40", n)
		}
	}
	hasNone(t, setting{nil, decls[:2], crowd[:3]}, readTerm(t, "v3"), impl.TyVar)
	hasNone(t, setting{nil, decls[:2], crowd[:3]}, readTerm(t, "c2(0)"), impl.TyConst)
	refusedInstOf(t, decls[:2], 2, levelList(t, "0"))
	refusedInstOf(t, decls[:4], 2, levelList(t, "0", "0")[:0])
	refusedDecl(t, decls[:2], declOf(t, 0, "c2(0) c0 app"), impl.TyConst)
}

// notShared overwrites one slice after the other, with the room behind each, and
// checks of each one that those before it left it as it was.
func notShared(t *testing.T, k int, all []returned) {
	t.Helper()
	var want []string
	for _, s := range all {
		want = append(want, s.tell())
	}
	for i, s := range all {
		if s.tell() != want[i] {
			t.Fatalf("slice %d of call %d is shared: %s, not %s", i, k, s.tell(), want[i])
		}
		s.overwrite()
	}
}

// The parts of the arguments have their memory in common.
func callsThatShare(t *testing.T) []typingCall {
	t.Helper()
	shared := constTok(2, readLevel(t, "u0 s"))
	same := asLevels(shared.Levels[0].Toks, shared.Levels[0].Toks)
	typ := []impl.TTok{sortTok(readLevel(t, "u0 s")), shared, varTok(0), appTok(), piTok()}
	d := impl.Decl{Params: 1, Cons: []impl.Con{le(0, 0), eq(-1, -1)}, Type: typ}
	s := setting{nil, append(library(t), d, d), []impl.Term{{Toks: typ}, {Toks: typ}}}
	return []typingCall{
		{s, []impl.TTok{shared, sortTok(readLevel(t, "u0")), appTok()}, 14, same[:1], d},
		{s, []impl.TTok{varTok(0)}, 5, same, d},
		{s, []impl.TTok{{Op: impl.TmConst, N: 5, Levels: same}}, 7, same, d},
	}
}

// Of a call, of the same one again, and of another one that is given the results.
func TestResultsOfTypingShareNothing(t *testing.T) {
	for k, c := range append(typingCalls(t), callsThatShare(t)...) {
		more := func() []returned {
			first, second := c.results(), c.results()
			third := c
			third.decls, third.x, third.d.Type = first.decls, first.typ, first.inst
			return slices.Concat(first.slices(), second.slices(), third.results().slices())
		}
		notShared(t, k, more())
		back := more()
		slices.Reverse(back)
		notShared(t, k, back)
	}
}

// The same memory holds other terms each time, so that anything kept for those
// before would show.
func TestTypingKeepsNoState(t *testing.T) {
	s := setting{[]impl.Con{eq(0, 1)}, library(t), ctxOf(t, "sort(u0)", "v0", "c2(u0)")}
	x := readTerm(t, "c2(u0) v2 app v0 pi")
	toks := append(goodTToks(), constTok(1), constTok(3, readLevel(t, "u1")), constTok(0), varTok(99))
	for range 2 {
		for at := range x {
			for _, tok := range toks {
				keptTok, keptType := x[at], s.ctx[at%3].Toks[0]
				for _, p := range []int{0, 1, 2, -1, 5} {
					x[at], s.list[0].U = tok, p
					checkInfer(t, s, x)
					s.ctx[at%3].Toks[0] = tok
					checkInfer(t, s, x)
					x[at] = keptTok
					checkInfer(t, s, x)
					s.ctx[at%3].Toks[0] = keptType
				}
				s.list[0] = eq(0, 1)
				kept := s.decls[2].Type[at%3]
				s.decls[2].Type[at%3] = tok
				checkInfer(t, s, x)
				if code := impl.DeclCheck(s.decls[:2], s.decls[2]); code != expectedCheck(s.decls[:2], s.decls[2]) {
					t.Fatalf("DeclCheck of %v: %d", s.decls[2], code)
				}
				s.decls[2].Type[at%3] = kept
			}
		}
	}
}

func TestTypingDoesNotDependOnTheOrderOfCalls(t *testing.T) {
	calls := typingCalls(t)
	for k, j := range judgements(t) {
		if k%5 == 0 {
			calls = append(calls, typingCall{j.setting, j.x, k % 15, asLevels(sideToks(k % 5)), impl.Decl{Params: 5, Cons: j.list, Type: j.typ}})
		}
	}
	inAnyOrder(t, calls, 1)
}

func TestNoTypingPanics(t *testing.T) {
	numbers := []int{math.MinInt, math.MinInt + 1, -2, -1, 0, 1, 2, 3, 4, 5, 6, 13, 14, 19, 20, 21, 99, 100, math.MaxInt - 1, math.MaxInt}
	lists := [][]impl.Con{nil, {lt(0, 1)}, {lt(0, 0)}, {scribbleCon}, make([]impl.Con, 100000), {{U: math.MinInt, Rel: math.MaxInt, V: math.MaxInt}}}
	levels := [][]impl.Level{nil, {}, {{}}, asLevels(tower(24)), asLevels(tower(25)), make([]impl.Level, 5), make([]impl.Level, 6), make([]impl.Level, 100000), asLevels(tower(1), tower(2), tower(3), tower(4), tower(24))}
	terms := append(invalidTerms(t), spine(constTok(0), piTok(), 14), nest(varTok(0), appTok(), 14), nest(varTok(1), piTok(), 14), make([]impl.TTok, 100000))
	for i, op := range numbers {
		for k, n := range numbers {
			tok := impl.TTok{Op: op, N: n, Levels: levels[(i+k)%len(levels)]}
			terms = append(terms, []impl.TTok{tok}, []impl.TTok{{Op: op, N: n}}, []impl.TTok{varTok(0), constTok(0), {Op: op, N: n}}, []impl.TTok{tok, tok, piTok()}, []impl.TTok{constTok(3, tower(1)), tok, appTok()})
		}
	}
	decls, contexts := [][]impl.Decl{nil, {}, {{}}, make([]impl.Decl, 100000), library(t), {scribbleDecl}}, append(invalidContexts(t), nil, families(t), slices.Repeat(ctxOf(t, "c0"), 20))
	for _, d := range invalidDecls(t) {
		decls = append(decls, []impl.Decl{d}, append(library(t), d))
	}
	for k, x := range terms {
		for i, n := range numbers {
			s := setting{lists[(k+i)%6*(i%2)], decls[(k*3+i)%len(decls)], contexts[(k*5+i)%len(contexts)]}
			d := impl.Decl{Params: n, Cons: s.list, Type: x}
			for _, c := range []typingCall{{s, x, n, levels[(k+i)%len(levels)], d}, {setting{s.list, decls[4], families(t)}, x, n, levels[(k+i)%len(levels)], d}} {
				c.results()
			}
			impl.CtxOk(append(s.ctx[:len(s.ctx):len(s.ctx)], impl.Term{Toks: x}))
			impl.DeclsOk(append(s.decls[:len(s.decls):len(s.decls)], d))
		}
	}
}
