package tests

import (
	"fmt"
	"slices"
	"sync"
	"testing"

	"loop.example/g00744/impl"
)

// A setting is what the type of a term depends on beside the term.
type setting struct {
	list  []impl.Con
	decls []impl.Decl
	ctx   []impl.Term
}

func (s setting) String() string {
	said := fmt.Sprint(s.list, " with ")
	for _, d := range s.decls {
		said += fmt.Sprintf("%d %v %s; ", d.Params, d.Cons, impl.TermText(d.Type))
	}
	for _, a := range s.ctx {
		said += "| " + impl.TermText(a.Toks)
	}
	return said
}

func (s setting) infer(x []impl.TTok) ([]impl.TTok, int) {
	return impl.Infer(s.list, s.decls, s.ctx, x)
}

// with has one more variable, of this type.
func (s setting) with(a []impl.TTok) setting {
	s.ctx = append(slices.Clone(s.ctx), impl.Term{Toks: a})
	return s
}

func (s setting) under(list ...impl.Con) setting {
	s.list = list
	return s
}

func isConList(list []impl.Con, params int) bool {
	side := func(p int) bool { return -1 <= p && p < params }
	return len(list) <= 24 && !slices.ContainsFunc(list, func(c impl.Con) bool {
		return !side(c.U) || !side(c.V) || c.Rel < 0 || c.Rel > 2
	})
}

func isDecl(d impl.Decl) bool {
	if d.Params < 0 || d.Params > 5 || !isConList(d.Cons, d.Params) {
		return false
	}
	for _, tok := range d.Type {
		for _, l := range tok.Levels {
			for _, part := range l.Toks {
				if part.Op == impl.OpParam && part.N >= d.Params {
					return false
				}
			}
		}
	}
	n := namedOf(d.Type)
	return n != nil && n.open() == 0
}

func isDeclList(list []impl.Decl) bool {
	return len(list) <= 20 && !slices.ContainsFunc(list, func(d impl.Decl) bool { return !isDecl(d) })
}

func isCtx(ctx []impl.Term) bool {
	for i, x := range ctx {
		n := namedOf(x.Toks)
		if i >= 20 || n == nil || n.open() > i {
			return false
		}
	}
	return true
}

// A typist infers types of named terms. The variables of the context, and those
// that a TmPi binds, have the same type wherever they are used, so that nothing
// is ever lifted.
type typist struct {
	setting
	types map[*named]*named
}

// expectedInfer is asked of what is not valid as well.
func expectedInfer(s setting, x []impl.TTok) ([]impl.TTok, int) {
	if !isConList(s.list, 5) || !isDeclList(s.decls) || !isCtx(s.ctx) || namedOf(x) == nil {
		return nil, impl.TyForm
	}
	return typeIn(s, x)
}

// typeIn is asked of what is valid only.
func typeIn(s setting, x []impl.TTok) ([]impl.TTok, int) {
	w := typist{s, map[*named]*named{}}
	var scope []*named
	for _, a := range s.ctx {
		variable := &named{}
		w.types[variable], _ = namedBack(a.Toks, scope)
		scope = append(scope, variable)
	}
	n, _ := namedBack(x, scope)
	typ, code := w.infer(n, scope)
	if code != impl.TyFine {
		return nil, code
	}
	return typ.tokens(scope...), impl.TyFine
}

func (w typist) infer(n *named, scope []*named) (*named, int) {
	switch n.tok.Op {
	case impl.TmSort:
		return sortOfToks(slices.Concat(n.tok.Levels[0].Toks, []impl.Tok{{Op: impl.OpSucc}}))
	case impl.TmVar:
		if n.binder == nil {
			return nil, impl.TyVar
		}
		return w.types[n.binder], impl.TyFine
	case impl.TmConst:
		return w.constant(n.tok)
	case impl.TmPi:
		return w.pi(n, scope)
	}
	return w.app(n, scope)
}

func sortOfToks(l []impl.Tok) (*named, int) {
	if len(l) > 24 {
		return nil, impl.TyBig
	}
	return &named{tok: sortTok(l)}, impl.TyFine
}

func (w typist) constant(c impl.TTok) (*named, int) {
	if c.N >= len(w.decls) || w.decls[c.N].Params != len(c.Levels) {
		return nil, impl.TyConst
	}
	typ, ok := expectedInst(w.decls[c.N].Type, c.Levels)
	if !ok {
		return nil, impl.TyBig
	}
	for _, con := range w.decls[c.N].Cons {
		if !w.holds(con, c.Levels) {
			return nil, impl.TyCons
		}
	}
	return namedOf(typ), impl.TyFine
}

func (w typist) holds(c impl.Con, with []impl.Level) bool {
	level := func(p int) []impl.Tok {
		if p < 0 {
			return []impl.Tok{{Op: impl.OpZero}}
		}
		return with[p].Toks
	}
	u, v := level(c.U), level(c.V)
	switch c.Rel {
	case impl.RelLt:
		return impl.LeUnder(w.list, slices.Concat(u, []impl.Tok{{Op: impl.OpSucc}}), v)
	case impl.RelEq:
		return impl.EqUnder(w.list, u, v)
	}
	return impl.LeUnder(w.list, u, v)
}

func (w typist) pi(n *named, scope []*named) (*named, int) {
	a, code := w.infer(n.a, scope)
	switch {
	case code != impl.TyFine:
		return nil, code
	case a.tok.Op != impl.TmSort:
		return nil, impl.TySort
	case len(scope) >= 20:
		return nil, impl.TyVar
	}
	w.types[n] = n.a
	b, code := w.infer(n.b, append(slices.Clone(scope), n))
	switch {
	case code != impl.TyFine:
		return nil, code
	case b.tok.Op != impl.TmSort:
		return nil, impl.TySort
	}
	return sortOfToks(slices.Concat(a.tok.Levels[0].Toks, b.tok.Levels[0].Toks, []impl.Tok{{Op: impl.OpImax}}))
}

func (w typist) app(n *named, scope []*named) (*named, int) {
	function, code := w.infer(n.a, scope)
	if code != impl.TyFine {
		return nil, code
	}
	argument, code := w.infer(n.b, scope)
	switch {
	case code != impl.TyFine:
		return nil, code
	case function.tok.Op != impl.TmPi:
		return nil, impl.TyPi
	case !expectedSame(w.list, function.a.tokens(scope...), argument.tokens(scope...)):
		return nil, impl.TyArg
	}
	typ := function.b.replaced(map[*named]*named{function: n.b})
	if len(typ.tokens(scope...)) > 30 {
		return nil, impl.TyBig
	}
	return typ, impl.TyFine
}

// replaced is a copy in which these variables are other terms. A TmPi that is
// copied binds the copies of its variables.
func (n *named) replaced(with map[*named]*named) *named {
	if n.binder != nil && with[n.binder] != nil && n.tok.Op == impl.TmVar {
		return with[n.binder]
	}
	out := &named{tok: n.tok, binder: n.binder, free: n.free}
	if n.a != nil {
		out.a = n.a.replaced(with)
		with[n] = &named{tok: varTok(0), binder: out}
		out.b = n.b.replaced(with)
	}
	return out
}

// checkInfer also checks SortOf.
func checkInfer(t *testing.T, s setting, x []impl.TTok) ([]impl.TTok, int) {
	t.Helper()
	want, wantCode := expectedInfer(s, x)
	typ, code := s.infer(x)
	if code != wantCode || !sameTToks(typ, want) {
		t.Fatalf("Infer of %s in %v is %s, %d, not %s, %d", impl.TermText(x), s, impl.TermText(typ), code, impl.TermText(want), wantCode)
	}
	var sort []impl.Tok
	if code == impl.TyFine {
		if len(want) == 1 && want[0].Op == impl.TmSort {
			sort = want[0].Levels[0].Toks
		} else {
			wantCode = impl.TySort
		}
	}
	if l, code := impl.SortOf(s.list, s.decls, s.ctx, x); code != wantCode || !slices.Equal(l, sort) {
		t.Fatalf("SortOf of %s in %v is %v, %d, not %v, %d", impl.TermText(x), s, l, code, sort, wantCode)
	}
	return want, code
}

// hasType checks that a term has the type with this text.
func hasType(t *testing.T, s setting, x string, typ string) {
	t.Helper()
	got, code := s.infer(readTerm(t, x))
	if code != impl.TyFine || impl.TermText(got) != typ {
		t.Errorf("%s in %v has the type %s, %d, not %s", x, s, impl.TermText(got), code, typ)
	}
}

// hasNone checks that a term has no type, and of that the code.
func hasNone(t *testing.T, s setting, x []impl.TTok, want int) {
	t.Helper()
	if typ, code := s.infer(x); code != want || len(typ) != 0 {
		t.Errorf("%s in %v has the type %s, %d, not %d", impl.TermText(x), s, impl.TermText(typ), code, want)
	}
	if l, code := impl.SortOf(s.list, s.decls, s.ctx, x); code != want || len(l) != 0 {
		t.Errorf("SortOf %s in %v is %v, %d, not %d", impl.TermText(x), s, l, code, want)
	}
}

func declOf(t *testing.T, params int, typ string, cons ...impl.Con) impl.Decl {
	t.Helper()
	return impl.Decl{Params: params, Cons: cons, Type: readTerm(t, typ)}
}

func ctxOf(t *testing.T, types ...string) []impl.Term {
	t.Helper()
	var out []impl.Term
	for _, x := range readTerms(t, types...) {
		out = append(out, impl.Term{Toks: x})
	}
	return out
}

// addDecl checks that the declaration is accepted, and returns the list.
func addDecl(t *testing.T, decls []impl.Decl, d impl.Decl) []impl.Decl {
	t.Helper()
	out, code := impl.DeclAdd(decls, d)
	if check := impl.DeclCheck(decls, d); code != impl.TyFine || check != code {
		t.Fatalf("DeclAdd of %v: %d, and DeclCheck: %d", d, code, check)
	}
	return out
}

// refusedDecl checks the code of a declaration that is not accepted.
func refusedDecl(t *testing.T, decls []impl.Decl, d impl.Decl, want int) {
	t.Helper()
	if code := impl.DeclCheck(decls, d); code != want {
		t.Errorf("DeclCheck of %v: %d, not %d", d, code, want)
	}
	if out, code := impl.DeclAdd(decls, d); code != want || len(out) != 0 {
		t.Errorf("DeclAdd of %v: %v, %d, not %d", d, out, code, want)
	}
}

func refusedInstOf(t *testing.T, decls []impl.Decl, n int, levels []impl.Level) {
	t.Helper()
	if typ, pairs, ok := impl.InstOf(decls, n, levels); ok || len(typ) != 0 || len(pairs) != 0 {
		t.Errorf("InstOf %d at %v: %v, %v, %v", n, levels, typ, pairs, ok)
	}
}

// library has a proposition c0 and a proof c1 of it; lists c2, with the empty
// one, c4; the identity c3; pairs c5; two liftings between sorts, c6 and c7, and
// a type c8, under constraints; c9 with all parameters; c10 and c11, whose types
// have an argument twice and three times; and a predicate c12, with a proof that
// it always holds, c13.
func library(t *testing.T) []impl.Decl {
	t.Helper()
	var out []impl.Decl
	for _, d := range []impl.Decl{
		declOf(t, 0, "sort(0)"),
		declOf(t, 0, "c0"),
		declOf(t, 1, "sort(u0) sort(u0) pi"),
		declOf(t, 1, "sort(u0) v0 v1 pi pi"),
		declOf(t, 1, "sort(u0) c2(u0) v0 app pi"),
		declOf(t, 2, "sort(u0) v0 sort(u1) pi sort(u0 u1 max) pi pi"),
		declOf(t, 2, "sort(u0) sort(u1) pi", lt(0, 1)),
		declOf(t, 2, "sort(u0) sort(u1) pi", eq(0, 1)),
		declOf(t, 1, "sort(u0 s)", lt(-1, 0)),
		declOf(t, 5, "sort(u0 u1 u2 u3 u4 max max max max)", le(0, 1), lt(1, 2), eq(3, 4)),
		declOf(t, 0, "sort(0 s) v0 v1 pi pi"),
		declOf(t, 0, "sort(0 s) v0 v1 v2 pi pi pi"),
		declOf(t, 0, "c0 sort(0) pi"),
		declOf(t, 0, "c0 c12 v0 app pi"),
	} {
		out = addDecl(t, out, d)
	}
	return out
}

// families are a type v2, a type v1 for each of its elements, and a function v0
// that has an element of each of these.
func families(t *testing.T) []impl.Term {
	t.Helper()
	return ctxOf(t, "sort(u0)", "v0 sort(u1) pi", "v1 v1 v0 app pi")
}

// settings have contexts of none to 20 types, under lists by which levels are
// equal, or only less, or that nothing satisfies.
func settings(t *testing.T) []setting {
	t.Helper()
	decls := library(t)
	crowd := slices.Repeat(ctxOf(t, "sort(u0)"), 17)
	return []setting{
		{nil, decls, nil},
		{[]impl.Con{lt(0, 1)}, decls, ctxOf(t, "sort(u0)", "v0")},
		{[]impl.Con{eq(0, 1)}, decls, ctxOf(t, "sort(u0)", "sort(u1)", "v0")},
		{[]impl.Con{lt(-1, 0), le(0, 1), le(1, 0)}, decls, append(families(t), ctxOf(t, "v2")...)},
		{nil, decls, append(slices.Clone(crowd), ctxOf(t, "v0", "v1")...)},
		{[]impl.Con{lt(0, 1), lt(1, 2), eq(3, 4)}, decls, append(slices.Clone(crowd), families(t)...)},
		{[]impl.Con{lt(0, 0)}, decls, ctxOf(t, "sort(u0)", "v0", "sort(u1) v0 v3 pi pi")},
		{nil, decls[:3], ctxOf(t, "c2(0)", "v0", "c77(u3)")},
	}
}

// bushes are all terms with this many leaves.
func bushes(leaves []impl.TTok, n int) [][]impl.TTok {
	var out [][]impl.TTok
	if n == 1 {
		for _, leaf := range leaves {
			out = append(out, []impl.TTok{leaf})
		}
	}
	for left := 1; left < n; left++ {
		for _, a := range bushes(leaves, left) {
			for _, b := range bushes(leaves, n-left) {
				for _, op := range []impl.TTok{piTok(), appTok()} {
					out = append(out, slices.Concat(a, b, []impl.TTok{op}))
				}
			}
		}
	}
	return out
}

// smallTerms are the bushes of up to three leaves.
func smallTerms(t *testing.T) [][]impl.TTok {
	t.Helper()
	var leaves []impl.TTok
	for _, x := range readTerms(t, "sort(u0)", "v0", "v1", "v2", "c0", "c1", "c2(u0)", "c2(u1)", "c3(u0)", "c6(u0, u1)", "c12") {
		leaves = append(leaves, x[0])
	}
	return slices.Concat(bushes(leaves, 1), bushes(leaves, 2), bushes(leaves, 3))
}

var commonLevels = sync.OnceValue(func() [][]impl.Tok {
	var out [][]impl.Tok
	for _, text := range []string{"0", "0", "u0", "u0", "u1", "0 s", "0 s", "u0 s", "u0 u1 max", "u2", "u1 s", "u1 u0 imax", "0 s s"} {
		l, _ := impl.LevelRead(text)
		out = append(out, l)
	}
	return append(out, tower(22), tower(24))
})

func (c *chooser) commonLevel() []impl.Tok {
	return commonLevels()[c.below(len(commonLevels()))]
}

// leafIn is mostly one that has a type.
func (c *chooser) leafIn(s setting) impl.TTok {
	switch c.below(4) {
	case 0:
		return sortTok(c.commonLevel())
	case 1:
		return varTok(c.below(len(s.ctx) + 1 - min(1, len(s.ctx)*c.below(20))))
	}
	if len(s.decls) == 0 || c.below(50) == 0 {
		return constTok(c.below(22))
	}
	n := c.below(len(s.decls))
	var levels [][]impl.Tok
	for range s.decls[n].Params {
		levels = append(levels, c.commonLevel())
	}
	return constTok(n, levels...)
}

// termIn mostly has parts that make a term with a type.
func (c *chooser) termIn(s setting, depth int) []impl.TTok {
	if depth == 0 || c.below(6) == 0 {
		return []impl.TTok{c.leafIn(s)}
	}
	if c.below(2) == 0 {
		a := c.termWhere(s, depth-1, isSort)
		return slices.Concat(a, c.termWhere(s.with(a), c.below(depth), isSort), []impl.TTok{piTok()})
	}
	argument := c.termIn(s, depth-1)
	typ, _ := typeIn(s, argument)
	return slices.Concat(c.functionFor(s, typ), argument, []impl.TTok{appTok()})
}

func typeOfType(s setting, typ []impl.TTok) []impl.TTok {
	if len(typ) == 0 {
		return nil
	}
	out, _ := typeIn(s, typ)
	return out
}

// functionFor mostly takes an argument of this type.
func (c *chooser) functionFor(s setting, typ []impl.TTok) []impl.TTok {
	all := [][]impl.TTok{{c.leafIn(s)}}
	for n := range s.ctx {
		all = append(all, []impl.TTok{varTok(n)})
	}
	l := c.commonLevel()
	if isSort(typ) {
		l = typ[0].Levels[0].Toks
	}
	for n, d := range s.decls {
		all = append(all, []impl.TTok{constTok(n, slices.Repeat([][]impl.Tok{l}, d.Params)...)})
		if d.Params == 2 {
			all = append(all, []impl.TTok{constTok(n, l, c.commonLevel())})
		}
	}
	if sort := typeOfType(s, typ); len(s.decls) > 3 && isSort(sort) {
		identity := slices.Concat([]impl.TTok{constTok(3, sort[0].Levels[0].Toks)}, typ, []impl.TTok{appTok()})
		all = append(all, identity, identity)
	}
	var fitting [][]impl.TTok
	for _, f := range all {
		if own, _ := typeIn(s, f); isFunction(own) && expectedSame(s.list, typ, namedOf(own).a.tokens()) {
			fitting = append(fitting, f)
		}
	}
	if len(fitting) == 0 || c.below(20) == 0 {
		return all[c.below(len(all))]
	}
	return fitting[c.below(len(fitting))]
}

// termWhere is mostly a term whose type fits.
func (c *chooser) termWhere(s setting, depth int, fits func(typ []impl.TTok) bool) []impl.TTok {
	for range 5 {
		x := c.termIn(s, depth)
		if typ, _ := typeIn(s, x); len(typ) > 0 && fits(typ) {
			return x
		}
	}
	return []impl.TTok{c.leafIn(s)}
}

func isSort(typ []impl.TTok) bool {
	return len(typ) == 1 && typ[0].Op == impl.TmSort
}

func isFunction(typ []impl.TTok) bool {
	return len(typ) > 0 && typ[len(typ)-1].Op == impl.TmPi
}

// A judgement is that a term has a type in a setting.
type judgement struct {
	setting
	x, typ []impl.TTok
}

var judgementsOnce []judgement

// judgements are of terms of many kinds, in each of the settings.
func judgements(t *testing.T) []judgement {
	t.Helper()
	if judgementsOnce != nil {
		return judgementsOnce
	}
	small := smallTerms(t)
	for i, s := range settings(t) {
		terms := small[:300]
		for seed := range 160 {
			c := chooser(seed*5003 + i*77 + 11)
			terms = append(terms[:len(terms):len(terms)], c.termIn(s, 1+seed%4))
		}
		for _, x := range terms {
			if typ, code := expectedInfer(s, x); code == impl.TyFine {
				judgementsOnce = append(judgementsOnce, judgement{s, x, typ})
			}
		}
	}
	return judgementsOnce
}

// hasItsType checks that the program finds the type of a judgement.
func (j judgement) hasItsType(t *testing.T) {
	t.Helper()
	if typ, code := j.infer(j.x); code != impl.TyFine || !sameTToks(typ, j.typ) {
		t.Fatalf("%s in %v has the type %s, %d, not %s", impl.TermText(j.x), j.setting, impl.TermText(typ), code, impl.TermText(j.typ))
	}
}

// bound is the greatest number of TmPis in whose B one part of a term stands.
func (n *named) bound() int {
	if n.a == nil {
		return 0
	}
	below := 0
	if n.tok.Op == impl.TmPi {
		below = 1
	}
	return max(n.a.bound(), n.b.bound()+below)
}

// expectedCheck is asked of what is not valid as well.
func expectedCheck(decls []impl.Decl, d impl.Decl) int {
	switch {
	case !isDeclList(decls) || !isDecl(d):
		return impl.TyForm
	case len(decls) == 20:
		return impl.TyFull
	case satisfying(d.Cons).none():
		return impl.TyCons
	}
	typ, code := typeIn(setting{d.Cons, decls, nil}, d.Type)
	if code == impl.TyFine && !isSort(typ) {
		return impl.TySort
	}
	return code
}

func sameDecls(a, b []impl.Decl) bool {
	return slices.EqualFunc(a, b, func(x, y impl.Decl) bool {
		return x.Params == y.Params && slices.Equal(x.Cons, y.Cons) && sameTToks(x.Type, y.Type)
	})
}

// ownUse is the declaration with the index n at its own parameters.
func ownUse(n int, d impl.Decl) []impl.TTok {
	var own [][]impl.Tok
	for p := range d.Params {
		own = append(own, sideToks(p))
	}
	return []impl.TTok{constTok(n, own...)}
}
