package tests

import (
	"fmt"
	"math"
	"slices"
	"testing"
	"time"

	"loop.example/g00744/impl"
)

func TestNumbersOfTyping(t *testing.T) {
	codes := []int{impl.TyFine, impl.TyForm, impl.TyVar, impl.TySort, impl.TyPi, impl.TyArg, impl.TyConst, impl.TyCons, impl.TyBig, impl.TyFull}
	if impl.MaxDecls != 20 || !slices.Equal(codes, []int{0, 1, 2, 3, 4, 5, 6, 7, 8, 9}) {
		t.Error(impl.MaxDecls, codes)
	}
}

// zeros is a level of 24 tokens that is 0.
const zeros = "0 s 0 imax 0 max 0 max 0 max 0 max 0 max 0 max 0 max 0 max 0 max 0 max"

func sortText(tokens int) string {
	return "sort(" + impl.LevelText(tower(tokens)) + ")"
}

// A failure is a term that has no type in the library and any context.
type failure struct {
	text string
	code int
}

// failures have no free variable, but for those that are in no context.
func failures() []failure {
	return []failure{
		{"v99", impl.TyVar},
		{"c1 c0 pi", impl.TySort},
		{"c0 c0 app", impl.TyPi},
		{"c2(0 s) c0 app", impl.TyArg},
		{"c99", impl.TyConst},
		{"c6(u1, u0)", impl.TyCons},
		{sortText(24), impl.TyBig},
	}
}

// crowded is the library in a context of n types.
func crowded(t *testing.T, n int) setting {
	t.Helper()
	return setting{nil, library(t), slices.Repeat(ctxOf(t, "c0"), n)}
}

// fails checks the code of a term in contexts of several sizes.
func fails(t *testing.T, x string, want int) {
	t.Helper()
	for _, n := range []int{0, 1, 7, 18} {
		hasNone(t, crowded(t, n), readTerm(t, x), want)
	}
}

func TestEachFailureAlone(t *testing.T) {
	for _, f := range failures() {
		fails(t, f.text, f.code)
		hasNone(t, crowded(t, 19), readTerm(t, f.text), f.code)
	}
}

// Of two parts that both fail, the first one decides, however deep it stands.
func TestTheFirstOfTwoPartsThatFail(t *testing.T) {
	for _, e := range failures() {
		for _, f := range failures() {
			for _, op := range []string{" pi", " app"} {
				fails(t, e.text+" "+f.text+op, e.code)
				for _, outer := range []string{" pi", " app"} {
					fails(t, e.text+" "+f.text+op+" "+f.text+outer, e.code)
					fails(t, e.text+" c0"+op+" "+f.text+outer, e.code)
					fails(t, "c0 "+e.text+op+" "+f.text+outer, e.code)
					fails(t, "c0 "+e.text+" "+f.text+op+outer, e.code)
				}
			}
		}
	}
}

// In what is no sort, nothing can be of a type.
func TestNoSortBeforeTheErrorOfB(t *testing.T) {
	for _, a := range []string{"c1", "c3(0)", "c3(0) c0 app", "c4(u1)", "c13"} {
		fails(t, a+" c0 pi", impl.TySort)
		fails(t, a+" c1 pi", impl.TySort)
		fails(t, a+" v0 pi", impl.TySort)
		for _, f := range failures() {
			fails(t, a+" "+f.text+" pi", impl.TySort)
			fails(t, f.text+" "+a+" pi", f.code)
		}
	}
}

func TestTheErrorOfB(t *testing.T) {
	for _, a := range []string{"c0", "sort(u0)", "c8(0 s)", "c2(0) c0 app"} {
		for _, b := range []string{"c1", "c3(0)", "c13"} {
			fails(t, a+" "+b+" pi", impl.TySort)
		}
		fails(t, a+" v0 c0 app pi", impl.TyPi)
		fails(t, a+" c2(u4) v0 app pi", impl.TyArg)
		for _, f := range failures() {
			fails(t, a+" "+f.text+" pi", f.code)
			fails(t, a+" "+a+" "+f.text+" pi pi", f.code)
		}
	}
	// The variable that is bound is of no sort where its type is none.
	fails(t, "c0 v0 pi", impl.TySort)
	hasType(t, crowded(t, 3), "sort(0) v0 pi", "sort(0 s 0 imax)")
	fails(t, "sort(0) v0 v0 pi pi", impl.TySort)
}

func TestNoSortOfBBeforeTooLong(t *testing.T) {
	for _, b := range []string{"c1", "c3(0)", "c13", "c4(u1)"} {
		fails(t, sortText(23)+" "+b+" pi", impl.TySort)
		fails(t, sortText(24)+" "+b+" pi", impl.TyBig)
	}
	fails(t, sortText(23)+" c0 pi", impl.TyBig)
	fails(t, "c0 "+sortText(23)+" pi", impl.TyBig)
	fails(t, "c1 "+sortText(23)+" pi", impl.TySort)
}

func TestTheArgumentBeforeTheFunctionIsUsed(t *testing.T) {
	for _, notAFunction := range []string{"c0", "c1", "sort(u0)", "c8(0 s)", "c0 c0 pi"} {
		for _, f := range failures() {
			fails(t, notAFunction+" "+f.text+" app", f.code)
			fails(t, f.text+" "+notAFunction+" app", f.code)
		}
		// No argument fits what is no function.
		for _, argument := range []string{"c0", "c1", "sort(u0)", "c3(0)"} {
			fails(t, notAFunction+" "+argument+" app", impl.TyPi)
		}
	}
	for _, function := range []string{"c2(0)", "c12", "c3(0 s s) sort(0 s) app"} {
		for _, f := range failures() {
			fails(t, function+" "+f.text+" app", f.code)
		}
	}
	// A type that is a function's use, or a sort of functions, is no TmPi.
	hasNone(t, setting{nil, library(t), families(t)}, readTerm(t, "v0 v0 app"), impl.TyArg)
	fails(t, "c4(0) c0 app c0 app", impl.TyPi)
}

// wide is a term of 2 * n - 1 tokens, whose parts all have the sort of the leaf.
func wide(t *testing.T, leaf string, n int) string {
	t.Helper()
	text := leaf
	for range n - 1 {
		text += " " + shifted(t, leaf) + " pi"
	}
	return text
}

func shifted(t *testing.T, x string) string {
	t.Helper()
	up, _ := expectedLift(readTerm(t, x), 1)
	return impl.TermText(up)
}

func TestArgumentsThatDoNotFitBeforeTooLong(t *testing.T) {
	for n := 1; n <= 8; n++ {
		// The types are sort(0 s) and sort(0), in other words.
		fits, other := wide(t, "sort(0)", n), wide(t, "c0", n)
		fails(t, "c10 "+other+" app", impl.TyArg)
		fails(t, "c11 "+other+" app", impl.TyArg)
		if n <= 7 {
			typ := fmt.Sprintf("%s %s pi", fits, shifted(t, fits))
			hasType(t, crowded(t, 2), "c10 "+fits+" app", typ)
		} else {
			fails(t, "c10 "+fits+" app", impl.TyBig)
		}
		if n <= 5 {
			typ := fmt.Sprintf("%s %s %s pi pi", fits, shifted(t, fits), shifted(t, fits))
			hasType(t, crowded(t, 2), "c11 "+fits+" app", typ)
		} else {
			fails(t, "c11 "+fits+" app", impl.TyBig)
		}
	}
}

// The argument may also have free variables, which are lifted where it is put.
func TestTooLongTypesOfApplicationsInContexts(t *testing.T) {
	s := setting{nil, []impl.Decl{declOf(t, 0, "sort(0) v0 v1 v2 pi pi pi")}, ctxOf(t, "sort(0)", "sort(0)")}
	for n := 1; n <= 14; n++ {
		fits := wide(t, "v1", n)
		up := shifted(t, fits)
		if n <= 5 {
			hasType(t, s, "c0 "+fits+" app", fmt.Sprintf("%s %s %s pi pi", fits, up, shifted(t, up)))
		} else {
			hasNone(t, s, readTerm(t, "c0 "+fits+" app"), impl.TyBig)
		}
	}
}

func TestNoRoomAfterAAndBeforeB(t *testing.T) {
	full, room, two := crowded(t, 20), crowded(t, 19), crowded(t, 18)
	for _, f := range failures() {
		hasNone(t, full, readTerm(t, f.text+" c0 pi"), f.code)
		hasNone(t, full, readTerm(t, f.text+" "+f.text+" pi"), f.code)
		hasNone(t, full, readTerm(t, "c1 "+f.text+" pi"), impl.TySort)
		hasNone(t, full, readTerm(t, "c0 "+f.text+" pi"), impl.TyVar)
		hasNone(t, room, readTerm(t, "c0 "+f.text+" pi"), f.code)
		hasNone(t, room, readTerm(t, "c0 c0 "+f.text+" pi pi"), impl.TyVar)
		hasNone(t, room, readTerm(t, "c0 c1 "+f.text+" pi pi"), impl.TySort)
		hasNone(t, two, readTerm(t, "c0 c0 "+f.text+" pi pi"), f.code)
		// Beside a TmPi, and not below it.
		hasNone(t, full, readTerm(t, f.text+" c0 c0 pi app"), f.code)
		hasNone(t, full, readTerm(t, "c0 c0 pi "+f.text+" app"), impl.TyVar)
		hasNone(t, room, readTerm(t, "c0 c0 pi "+f.text+" app"), f.code)
		hasNone(t, full, readTerm(t, "c0 "+f.text+" app"), f.code)
	}
	hasNone(t, full, readTerm(t, "c0 c1 pi"), impl.TyVar)
	hasNone(t, full, readTerm(t, sortText(23)+" c0 pi"), impl.TyVar)
	hasNone(t, full, readTerm(t, "c0 c0 pi c0 app"), impl.TyVar)
	hasNone(t, full, readTerm(t, "c0 c0 c0 pi app"), impl.TyVar)
	hasType(t, full, "c12 v19 app", "sort(0)")
	hasType(t, room, "c0 c12 v19 app pi", "sort(0 0 imax)")
}

func TestNoSuchDeclarationBeforeTooLongBeforeConstraints(t *testing.T) {
	s := setting{nil, library(t), nil}
	long := impl.LevelText(tower(24))
	for _, x := range []struct {
		text string
		code int
	}{
		// c8 takes one level greater than 0, and its type has the next one.
		{"c8", impl.TyConst},
		{"c8(0, 0)", impl.TyConst},
		{"c8(" + long + ", 0)", impl.TyConst},
		{"c8(" + zeros + ", 0)", impl.TyConst},
		{"c8(" + zeros + ")", impl.TyBig},
		{"c8(" + long + ")", impl.TyBig},
		{"c8(0)", impl.TyCons},
		{"c8(u0)", impl.TyCons},
		{"c8(u0 s)", impl.TyFine},
		{"c6(0)", impl.TyConst},
		{"c6(0, 0, 0)", impl.TyConst},
		{"c6(0, 0)", impl.TyCons},
		// A level with no successor is less than no other one.
		{"c6(" + long + ", 0)", impl.TyCons},
		{"c6(0, " + zeros + ")", impl.TyCons},
		{"c9(0 s, 0, 0, 0)", impl.TyConst},
		{"c9(0 s, 0, 0, 0, " + long + ")", impl.TyBig},
		{"c9(0 s, 0, 0, 0, 0)", impl.TyCons},
		{"c20", impl.TyConst},
		{"c99(" + zeros + ")", impl.TyConst},
	} {
		if _, code := s.infer(readTerm(t, x.text)); code != x.code {
			t.Errorf("%s: %d, not %d", x.text, code, x.code)
		}
	}
	s.list = []impl.Con{lt(0, 0)}
	hasNone(t, s, readTerm(t, "c6("+long+", 0)"), impl.TyCons)
	hasNone(t, s, readTerm(t, "c8("+zeros+")"), impl.TyBig)
	hasNone(t, s, readTerm(t, "c8("+zeros+", 0)"), impl.TyConst)
	hasType(t, s, "c8(0)", "sort(0 s)")
}

func invalidLists() [][]impl.Con {
	out := [][]impl.Con{append(fullList(), le(0, 0)), make([]impl.Con, 25), make([]impl.Con, 1000)}
	for _, c := range badCons() {
		out = append(out, []impl.Con{c}, []impl.Con{lt(0, 1), c}, []impl.Con{c, lt(0, 0)})
	}
	return out
}

func invalidTerms(t *testing.T) [][]impl.TTok {
	t.Helper()
	out := append(readTerms(t, "pi", "app", "v0 v0", "c0 pi", "c0 c0 c0 pi", "c0 c0 pi pi", "v100", "c100", "sort", "sort(0, 0)", "c0(0, 0, 0, 0, 0, 0)", "v0(0)"), nil, []impl.TTok{}, []impl.TTok{{}}, spine(constTok(0), piTok(), 15), []impl.TTok{{Op: 6}}, []impl.TTok{{Op: impl.TmVar, N: -1}}, []impl.TTok{{Op: impl.TmConst, N: math.MinInt}})
	for _, l := range badLevels() {
		out = append(out, []impl.TTok{sortTok(l)}, []impl.TTok{constTok(2, l)}, []impl.TTok{sortTok(tower(24)), sortTok(l), appTok()})
	}
	return out
}

// invalidDecls are no declarations, each for one reason.
func invalidDecls(t *testing.T) []impl.Decl {
	t.Helper()
	out := []impl.Decl{
		declOf(t, -1, "sort(0)"), declOf(t, 6, "sort(0)"), declOf(t, math.MaxInt, "sort(0)"), declOf(t, math.MinInt, "sort(0)"),
		declOf(t, 0, "v0"), declOf(t, 1, "sort(u0) v1 pi"), declOf(t, 0, "c0 v99 app"), declOf(t, 0, "c0 v0 app c0 pi"),
		{Params: 5, Cons: append(fullList(), le(0, 0)), Type: readTerm(t, "sort(0)")}, {},
	}
	for _, c := range badCons() {
		out = append(out, declOf(t, 5, "sort(0)", c), declOf(t, 5, "sort(0)", le(0, 1), c), declOf(t, 5, "sort(0)", c, lt(0, 0)))
	}
	for _, x := range invalidTerms(t) {
		out = append(out, impl.Decl{Type: x}, impl.Decl{Params: 5, Type: x})
	}
	return append(out, declOf(t, 0, "sort(u0)"), declOf(t, 1, "sort(0) c2(0, u1 s) pi"), declOf(t, 4, "sort(0)", lt(0, 4)))
}

func invalidContexts(t *testing.T) [][]impl.Term {
	t.Helper()
	good := ctxOf(t, "sort(u0)", "v0")
	out := [][]impl.Term{ctxOf(t, "v0"), ctxOf(t, "sort(0)", "v1"), ctxOf(t, "sort(0)", "v0", "sort(0) v3 pi"), slices.Repeat(ctxOf(t, "c0"), 21), make([]impl.Term, 1), make([]impl.Term, 1000)}
	for _, x := range invalidTerms(t) {
		out = append(out, []impl.Term{{Toks: x}}, append(slices.Clone(good), impl.Term{Toks: x}), append([]impl.Term{{Toks: x}}, ctxOf(t, "c0")...))
	}
	return out
}

// Each of the arguments is not valid alone, and all others would do, or not.
func TestOneArgumentThatIsNotValid(t *testing.T) {
	good := setting{[]impl.Con{lt(0, 1)}, library(t), ctxOf(t, "sort(u0)", "v0")}
	terms := readTerms(t, "v1", "c0", "sort(0)", "c2(0) c0 app", "sort(0) v0 pi")
	for _, f := range failures() {
		terms = append(terms, readTerm(t, f.text))
	}
	for k, x := range terms {
		if _, code := good.infer(x); k < 5 && code != impl.TyFine {
			t.Fatalf("%s: %d", impl.TermText(x), code)
		}
		for _, list := range invalidLists() {
			hasNone(t, good.under(list...), x, impl.TyForm)
		}
		for i, d := range invalidDecls(t) {
			s := good
			s.decls = slices.Insert(library(t), []int{0, 5, 14}[i%3], d)
			hasNone(t, s, x, impl.TyForm)
			if impl.DeclsOk(s.decls) || impl.DeclsOk([]impl.Decl{d}) {
				t.Fatalf("%v is a declaration", d)
			}
		}
		s := good
		s.decls = append(slices.Repeat(good.decls[:3], 6), good.decls[:3]...)
		hasNone(t, s, x, impl.TyForm)
		for _, ctx := range invalidContexts(t) {
			s := good
			s.ctx = ctx
			hasNone(t, s, x, impl.TyForm)
			if impl.CtxOk(ctx) {
				t.Fatalf("%v is a context", ctx)
			}
		}
	}
	for _, x := range invalidTerms(t) {
		hasNone(t, good, x, impl.TyForm)
		hasNone(t, setting{}, x, impl.TyForm)
	}
}

func TestContextsOfUpTo20Types(t *testing.T) {
	for n := range 24 {
		ctx := slices.Repeat(ctxOf(t, "sort(0)"), n)
		if impl.CtxOk(ctx) != (n <= 20) {
			t.Errorf("%d types", n)
		}
		for _, x := range readTerms(t, "c0", "sort(0)") {
			if _, code := (setting{nil, library(t), ctx}).infer(x); (code == impl.TyFine) != (n <= 20) || (code == impl.TyForm) != (n > 20) {
				t.Errorf("%s in %d types: %d", impl.TermText(x), n, code)
			}
		}
	}
	if !impl.CtxOk(nil) || !impl.CtxOk([]impl.Term{}) {
		t.Error("no types are no context")
	}
}

// isACtx checks CtxOk, and that Infer accepts just what is a context.
func isACtx(t *testing.T, ctx []impl.Term, want bool) {
	t.Helper()
	_, code := setting{nil, nil, ctx}.infer(readTerm(t, "sort(0)"))
	if impl.CtxOk(ctx) != want || (code == impl.TyFine) != want || (code == impl.TyForm) == want {
		t.Errorf("%v: %v, %d", ctx, impl.CtxOk(ctx), code)
	}
}

// A type refers to those before it only.
func TestFreeVariablesOfTheTypesOfAContext(t *testing.T) {
	for i := range 20 {
		for behind := range 20 - i {
			ctx := slices.Repeat(ctxOf(t, "c0"), i+1+behind)
			for _, x := range []struct {
				term []impl.TTok
				open int
			}{
				{[]impl.TTok{varTok(i)}, i + 1},
				{[]impl.TTok{varTok(max(i-1, 0))}, max(i, 1)},
				{[]impl.TTok{varTok(99)}, 100},
				{[]impl.TTok{varTok(0), varTok(i + 1), piTok()}, i + 1},
				{[]impl.TTok{constTok(0), varTok(i), piTok()}, i},
				{[]impl.TTok{varTok(i), varTok(0), appTok()}, i + 1},
			} {
				ctx[i].Toks = x.term
				isACtx(t, ctx, x.open <= i)
			}
		}
	}
	isACtx(t, ctxOf(t, "sort(0)", "v0", "v1", "v2"), true)
	isACtx(t, ctxOf(t, "sort(0)", "v0", "v1", "v3"), false)
	isACtx(t, ctxOf(t, "sort(0)", "v1", "v1", "v2"), false)
	// A type of a context need not have a type.
	isACtx(t, ctxOf(t, "c99(u4)", "v0 v0 app", sortText(24)), true)
}

// isADecl checks DeclsOk, and that all functions accept just what is one.
func isADecl(t *testing.T, d impl.Decl, want bool) {
	t.Helper()
	levels := slices.Repeat(levelList(t, "0"), min(max(d.Params, 0), 5))
	_, _, ok := impl.InstOf([]impl.Decl{d}, 0, levels)
	_, code := setting{nil, []impl.Decl{d}, nil}.infer(readTerm(t, "sort(0)"))
	check := impl.DeclCheck(nil, d)
	after := impl.DeclCheck([]impl.Decl{d}, declOf(t, 0, "sort(0)"))
	if impl.DeclsOk([]impl.Decl{d}) != want || ok != want || (code == impl.TyFine) != want || (check == impl.TyForm) == want || (after == impl.TyFine) != want {
		t.Errorf("%v: %v, %v, %d, %d, %d", d, impl.DeclsOk([]impl.Decl{d}), ok, code, check, after)
	}
}

func TestParametersOfDeclarations(t *testing.T) {
	for params := -2; params <= 8; params++ {
		isADecl(t, declOf(t, params, "sort(0)"), 0 <= params && params <= 5)
		for p := -1; p <= 4; p++ {
			want := 0 <= params && params <= 5 && p < params
			for _, c := range []impl.Con{le(p, -1), lt(-1, p), eq(p, p), le(p, max(p-1, -1)), lt(max(p-1, -1), p)} {
				isADecl(t, declOf(t, params, "sort(0)", c), want)
				isADecl(t, declOf(t, params, "sort(0)", le(-1, -1), c), want)
				isADecl(t, declOf(t, params, "sort(0)", c, eq(-1, -1)), want)
			}
			if p < 0 {
				continue
			}
			for _, x := range []string{"sort(u%d)", "sort(0 u%d s max)", "sort(u%d 0 imax)", "c7(u%d)", "c7(0, 0, 0, 0, u%d)", "c7(0, u%d s, 0)", "sort(0) sort(u%d) pi", "c0 c1(u%d) app c3 pi", "c1(u%d) c0 app"} {
				isADecl(t, declOf(t, params, fmt.Sprintf(x, p)), want)
			}
		}
	}
	for _, params := range []int{math.MinInt, math.MaxInt, 1 << 32, 256} {
		isADecl(t, declOf(t, params, "sort(0)"), false)
	}
}

func TestTheZeroNodeInDeclarations(t *testing.T) {
	for _, c := range []impl.Con{le(-1, -1), eq(-1, -1)} {
		d := declOf(t, 0, "sort(0)", c)
		isADecl(t, d, true)
		decls := addDecl(t, nil, d)
		hasType(t, setting{nil, decls, nil}, "c0", "sort(0)")
		if _, pairs, ok := impl.InstOf(decls, 0, nil); !ok || len(pairs) != 1+c.Rel/2 || impl.LevelText(pairs[0].A) != "0" || impl.LevelText(pairs[0].B) != "0" {
			t.Error(pairs, ok)
		}
	}
	never := declOf(t, 0, "sort(0)", lt(-1, -1))
	isADecl(t, never, true)
	refusedDecl(t, nil, never, impl.TyCons)
	hasNone(t, setting{nil, []impl.Decl{never}, nil}, readTerm(t, "c0"), impl.TyCons)
	hasNone(t, setting{[]impl.Con{le(0, -1)}, []impl.Decl{never}, nil}, readTerm(t, "c0"), impl.TyCons)
	hasType(t, setting{[]impl.Con{lt(0, -1)}, []impl.Decl{never}, nil}, "c0", "sort(0)")
	isADecl(t, declOf(t, 0, "sort(0)", le(-2, -1)), false)
	isADecl(t, declOf(t, 0, "sort(0)", le(-1, 0)), false)
	isADecl(t, declOf(t, 0, "sort(0)", le(0, -1)), false)
}

func TestTypesOfDeclarationsAreClosed(t *testing.T) {
	for _, x := range []string{"v0", "v99", "c0 v1 pi", "v0 c0 pi", "sort(0) v0 v2 pi pi", "sort(0) v0 pi v0 app"} {
		isADecl(t, declOf(t, 0, x), false)
	}
	for _, x := range []string{"c0 v0 pi", "sort(0) v0 v1 pi pi", "c99 c77(0) app", "c0 v0 pi c0 v0 pi app"} {
		isADecl(t, declOf(t, 0, x), true)
	}
	full := declOf(t, 5, "sort(0)", fullList()...)
	isADecl(t, full, true)
	full.Cons = append(full.Cons, le(0, 0))
	isADecl(t, full, false)
	for _, d := range invalidDecls(t) {
		isADecl(t, d, false)
	}
}

func TestUpTo20Declarations(t *testing.T) {
	d := declOf(t, 0, "sort(0)")
	var decls []impl.Decl
	if !impl.DeclsOk(nil) || !impl.DeclsOk([]impl.Decl{}) {
		t.Error("no declarations are not valid")
	}
	for n := range 20 {
		hasNone(t, setting{nil, decls, nil}, []impl.TTok{constTok(n)}, impl.TyConst)
		decls = addDecl(t, decls, d)
		if len(decls) != n+1 || !impl.DeclsOk(decls) {
			t.Fatal(decls)
		}
		hasType(t, setting{nil, decls, nil}, fmt.Sprintf("c%d", n), "sort(0)")
	}
	refusedDecl(t, decls, d, impl.TyFull)
	refusedInstOf(t, decls, 20, nil)
	many := append(slices.Clone(decls), d)
	if impl.DeclsOk(many) || impl.DeclsOk(slices.Repeat(decls, 1000)) {
		t.Error("more than 20 declarations are valid")
	}
	refusedDecl(t, many, d, impl.TyForm)
	refusedInstOf(t, many, 0, nil)
	hasNone(t, setting{nil, many, nil}, readTerm(t, "c0"), impl.TyForm)
	hasNone(t, setting{nil, many, nil}, readTerm(t, "sort(0)"), impl.TyForm)
}

func TestVariablesOfContextsOfAllSizes(t *testing.T) {
	for n := range 21 {
		s := setting{nil, library(t), nil}
		for i := range n {
			// Each type tells where it stands, and refers to the one before it.
			s.ctx = append(s.ctx, impl.Term{Toks: []impl.TTok{constTok(i), varTok(0), piTok()}})
			if i > 0 {
				s.ctx[i].Toks[0] = varTok(i - 1)
				s.ctx[i].Toks[1] = varTok(1)
			}
		}
		for k := range 100 {
			x := []impl.TTok{varTok(k)}
			if k >= n {
				hasNone(t, s, x, impl.TyVar)
				continue
			}
			want := fmt.Sprintf("v%d v%d pi", n-1, k+2)
			if k == n-1 {
				want = "c0 v0 pi"
			}
			hasType(t, s, fmt.Sprintf("v%d", k), want)
		}
	}
}

// The indices of a context and of its types are far below the greatest one.
func TestTypesOfVariablesAreNeverTooBig(t *testing.T) {
	s := setting{nil, nil, ctxOf(t, "c0")}
	for i := 1; i < 20; i++ {
		x := nest(varTok(0), piTok(), 14)
		for depth := range 15 {
			x[depth].N = i - 1 + depth
		}
		s.ctx = append(s.ctx, impl.Term{Toks: x})
		for k := range i + 1 {
			want, ok := expectedLift(s.ctx[i-k].Toks, k+1)
			if !ok {
				t.Fatalf("%s lifted by %d is not valid", impl.TermText(x), k+1)
			}
			judgement{s, []impl.TTok{varTok(k)}, want}.hasItsType(t)
		}
	}
}

// Under the TmPis of a term, the types of the context are as far away as their
// variables.
func TestVariablesUnderPis(t *testing.T) {
	s := setting{nil, library(t), ctxOf(t, "sort(u0)", "v0", "v1 v2 pi")}
	hasType(t, s, "v0", "v2 v3 pi")
	hasType(t, s, "v0 v1 app", "v2")
	hasType(t, s, "v2 v3 pi", "sort(u0 u0 imax)")
	hasType(t, s, "v2 v3 v4 pi pi", "sort(u0 u0 u0 imax imax)")
	hasNone(t, s, readTerm(t, "v2 v0 pi"), impl.TySort)
	hasNone(t, s, readTerm(t, "v2 v2 pi"), impl.TySort)
	hasNone(t, s, readTerm(t, "v2 v4 pi"), impl.TyVar)
	hasType(t, s, "v2 c2(u0) v3 app pi", "sort(u0 u0 imax)")
	hasNone(t, s, readTerm(t, "v2 c2(u0) v2 app pi"), impl.TyArg)
	hasType(t, s, "c2(u0) v2 app", "sort(u0)")
	hasType(t, s, "sort(u1) v0 v1 pi pi", "sort(u1 s u1 u1 imax imax)")
	s.ctx = append(families(t), ctxOf(t, "v2")...)
	hasType(t, s, "v1", "v3 v3 v0 app pi")
	hasType(t, s, "v3 v3 v0 app pi", "sort(u0 u1 imax)")
	hasType(t, s, "v1 v0 app", "v2 v0 app")
	hasType(t, s, "v3 v3 v1 app pi", "sort(u0 u1 imax)")
	hasNone(t, s, readTerm(t, "v3 v2 v0 app pi"), impl.TySort)
	hasNone(t, s, readTerm(t, "v3 v1 v0 app pi"), impl.TyPi)
}

func TestUsesOfDeclarationsWithLevelsTooFewAndTooMany(t *testing.T) {
	for params := range 6 {
		for n := range 21 {
			s := setting{decls: slices.Repeat([]impl.Decl{declOf(t, params, "sort(0)")}, n)}
			for k := range 100 {
				for count := range 6 {
					levels := slices.Repeat(levelList(t, "u4 s"), count)
					x := []impl.TTok{{Op: impl.TmConst, N: k, Levels: levels}}
					typ, pairs, ok := impl.InstOf(s.decls, k, levels)
					if k >= n || count != params {
						hasNone(t, s, x, impl.TyConst)
						refusedInstOf(t, s.decls, k, levels)
						continue
					}
					if judge := (judgement{s, x, readTerm(t, "sort(0)")}); !ok || len(pairs) > 0 || !sameTToks(typ, judge.typ) {
						t.Errorf("InstOf %d at %v: %v, %v, %v", k, levels, typ, pairs, ok)
					} else {
						judge.hasItsType(t)
					}
				}
			}
		}
		d := declOf(t, params, "sort(0)")
		for count := range 9 {
			if count != params {
				refusedInstOf(t, []impl.Decl{d}, 0, slices.Repeat(levelList(t, "0"), count))
			}
		}
	}
}

func TestLevelsThatBecomeTooLong(t *testing.T) {
	s := setting{[]impl.Con{lt(-1, 1)}, library(t), nil}
	for n := 1; n <= 24; n++ {
		l := impl.LevelText(tower(n))
		if n < 24 {
			hasType(t, s, sortText(n), sortText(n+1))
			hasType(t, s, "c8("+l+")", sortText(n+1))
		} else {
			hasNone(t, s, readTerm(t, sortText(n)), impl.TyBig)
			hasNone(t, s, readTerm(t, "c8("+l+")"), impl.TyBig)
		}
		inst, pairs, ok := impl.InstOf(s.decls, 8, asLevels(tower(n)))
		if ok != (n < 24) || ok && (impl.TermText(inst) != sortText(n+1) || len(pairs) != 1 || impl.LevelText(pairs[0].B) != l) {
			t.Errorf("InstOf 8 at %s: %v, %v, %v", l, inst, pairs, ok)
		}
	}
	refusedInstOf(t, s.decls, 8, asLevels(tower(24)))
	// Both levels and an imax.
	for n := 2; n <= 24; n++ {
		for m := 2; m <= 24; m++ {
			x := readTerm(t, sortText(n-1)+" "+sortText(m-1)+" pi")
			if n+m+1 > 24 {
				hasNone(t, s, x, impl.TyBig)
				continue
			}
			l := slices.Concat(tower(n), tower(m), []impl.Tok{{Op: impl.OpImax}})
			judgement{s, x, []impl.TTok{sortTok(l)}}.hasItsType(t)
		}
	}
}

func TestUsesWithLevelsThatBecomeTooLong(t *testing.T) {
	s := setting{nil, library(t), nil}
	for n := 1; n <= 24; n++ {
		for m := 1; m <= 24; m++ {
			x := []impl.TTok{constTok(5, tower(n), tower(m))}
			inst, pairs, ok := impl.InstOf(s.decls, 5, x[0].Levels)
			if fits := n+m+1 <= 24; ok != fits || len(pairs) > 0 {
				t.Fatalf("InstOf 5 at levels of %d and %d tokens: %v, %v, %v", n, m, inst, pairs, ok)
			}
			if !ok {
				hasNone(t, s, x, impl.TyBig)
			} else {
				judgement{s, x, inst}.hasItsType(t)
			}
		}
	}
}

// Whether the constraints of a declaration hold depends on what the list implies.
func TestConstraintsThatTheListImplies(t *testing.T) {
	for _, x := range []struct {
		use   string
		list  []impl.Con
		holds bool
	}{
		{"c6(u0, u1)", nil, false},
		{"c6(u0, u1)", []impl.Con{lt(0, 1)}, true},
		{"c6(u0, u1)", []impl.Con{le(0, 1)}, false},
		{"c6(u0, u1)", []impl.Con{lt(1, 0)}, false},
		{"c6(u0, u1)", []impl.Con{le(0, 2), lt(2, 3), le(3, 1)}, true},
		{"c6(u0, u1)", []impl.Con{le(0, 2), le(2, 3), le(3, 1)}, false},
		{"c6(u0, u1)", []impl.Con{lt(2, 2)}, true},
		{"c6(u0, u0)", nil, false},
		{"c6(u0, u0 s)", nil, true},
		{"c6(0, 0 s)", nil, true},
		{"c6(u0 u2 max, u1)", []impl.Con{lt(0, 1)}, false},
		{"c6(u0 u2 max, u1)", []impl.Con{lt(0, 1), lt(2, 1)}, true},
		{"c6(u2 u0 imax, u1)", []impl.Con{le(0, -1), lt(-1, 1)}, true},
		{"c7(u0, u1)", nil, false},
		{"c7(u0, u1)", []impl.Con{eq(0, 1)}, true},
		{"c7(u0, u1)", []impl.Con{le(0, 1), le(1, 0)}, true},
		{"c7(u0, u1)", []impl.Con{le(0, 1)}, false},
		{"c7(u0, u1)", []impl.Con{le(1, 0)}, false},
		{"c7(u0, u0 u0 max)", nil, true},
		{"c8(u3)", nil, false},
		{"c8(u3)", []impl.Con{lt(-1, 3)}, true},
		{"c8(u3)", []impl.Con{lt(1, 3)}, true},
		{"c8(u3)", []impl.Con{le(1, 3)}, false},
		{"c9(u0, u1, u2, u3, u4)", []impl.Con{lt(0, 1), lt(1, 2), eq(3, 4)}, true},
		{"c9(u0, u1, u2, u3, u4)", []impl.Con{lt(0, 1), lt(1, 2), le(3, 4)}, false},
		{"c9(u0, u1, u2, u3, u4)", []impl.Con{lt(0, 1), le(1, 2), eq(3, 4)}, false},
		{"c9(u0, u1, u2, u3, u4)", []impl.Con{lt(1, 2), eq(4, 3)}, false},
		{"c9(u0, u0, u0 s, u2, u2)", nil, true},
	} {
		s := setting{x.list, library(t), families(t)}
		if !x.holds {
			hasNone(t, s, readTerm(t, x.use), impl.TyCons)
			hasNone(t, s, readTerm(t, "v2 "+x.use+" pi"), impl.TyCons)
			hasNone(t, s, readTerm(t, "c0 "+x.use+" app"), impl.TyCons)
		} else if _, code := s.infer(readTerm(t, x.use)); code != impl.TyFine {
			t.Errorf("%s under %v: %d", x.use, x.list, code)
		}
	}
}

func TestArgumentsThatFitUnderTheListOnly(t *testing.T) {
	for _, x := range []struct {
		application string
		list        []impl.Con
		typ         string
	}{
		// v2 is of the sort u0, and v1 a function to the sort u1.
		{"c2(u1) v2 app", []impl.Con{eq(0, 1)}, "sort(u1)"},
		{"c2(u1) v2 app", []impl.Con{le(1, 0), le(0, 1)}, "sort(u1)"},
		{"c2(u1) v2 app", []impl.Con{lt(3, -1)}, "sort(u1)"},
		{"c2(u0 u1 max) v2 app", []impl.Con{lt(1, 0)}, "sort(u0 u1 max)"},
		{"c2(u4 u0 imax) v2 app", []impl.Con{eq(0, 4)}, "sort(u4 u0 imax)"},
		{"c2(0) v2 app", []impl.Con{le(0, -1)}, "sort(0)"},
		{"c3(u3) v2 app", []impl.Con{eq(3, 0)}, "v2 v3 pi"},
		{"c4(u3) v2 app", []impl.Con{eq(3, 0)}, "c2(u3) v2 app"},
	} {
		s := setting{nil, library(t), families(t)}
		hasNone(t, s, readTerm(t, x.application), impl.TyArg)
		hasNone(t, s.under(x.list[1:]...), readTerm(t, x.application), impl.TyArg)
		hasType(t, s.under(x.list...), x.application, x.typ)
		hasType(t, s.under(append(x.list, lt(2, 2))...), x.application, x.typ)
	}
	s := setting{nil, library(t), families(t)}
	for _, c := range []impl.Con{le(0, 1), le(1, 0), lt(0, 1), lt(1, 0)} {
		hasNone(t, s.under(c), readTerm(t, "c2(u1) v2 app"), impl.TyArg)
	}
	// What differs in more than its levels fits under no list.
	for _, text := range []string{"c2(u0) v1 app", "c2(0) c1 app", "v1 v1 app", "v0 c0 app", "c12 c0 app", "c3(u0) v2 app v2 app"} {
		hasNone(t, s.under(lt(0, 0)), readTerm(t, text), impl.TyArg)
	}
}

func TestSortsOfTerms(t *testing.T) {
	s := setting{nil, library(t), append(families(t), ctxOf(t, "v2", "sort(u0 s)")...)}
	for _, x := range []struct{ text, level string }{
		{"sort(u3 0 max)", "u3 0 max s"},
		{"c0", "0"},
		{"v4", "u0"},
		{"v0", "u0 s"},
		{"v3 v1 app", "u1"},
		{"v4 v0 pi", ""},
		{"v4 v1 pi", "u0 u0 s imax"},
		{"c2(u0) v4 app", "u0"},
		{"c12 c1 app", "0"},
		{"c3(u0 s) sort(u0) app v4 app", "u0"},
	} {
		l, code := impl.SortOf(s.list, s.decls, s.ctx, readTerm(t, x.text))
		if (x.level == "") != (code == impl.TySort) || (x.level == "") == (code == impl.TyFine) || impl.LevelText(l) != x.level {
			t.Errorf("the sort of %s is %s, %d, not %s", x.text, impl.LevelText(l), code, x.level)
		}
	}
	// These have types, but no sorts.
	for _, text := range []string{"v1", "v2", "v3", "v2 v1 app", "c1", "c2(0)", "c3(u4)", "c4(0) c0 app", "c3(u0) v4 app v1 app", "c13", "c13 c1 app"} {
		if typ, code := s.infer(readTerm(t, text)); code != impl.TyFine || isSort(typ) {
			t.Errorf("%s has the type %s, %d", text, impl.TermText(typ), code)
		}
		if l, code := impl.SortOf(s.list, s.decls, s.ctx, readTerm(t, text)); code != impl.TySort || len(l) > 0 {
			t.Errorf("%s has the sort %v, %d", text, l, code)
		}
	}
	for _, f := range failures() {
		hasNone(t, s, readTerm(t, f.text), f.code)
	}
}

func TestInstOfWithoutSuchADeclaration(t *testing.T) {
	decls := library(t)
	for _, n := range []int{-1, -2, 14, 15, 20, 99, 100, 1 << 32, math.MinInt, math.MaxInt} {
		for count := range 6 {
			refusedInstOf(t, decls, n, slices.Repeat(levelList(t, "0"), count))
			refusedInstOf(t, nil, n, slices.Repeat(levelList(t, "0"), count))
		}
	}
	refusedInstOf(t, nil, 0, nil)
	for k, d := range invalidDecls(t) {
		for at := range len(decls) + 1 {
			bad := slices.Insert(slices.Clone(decls), at, d)
			if (at+k)%4 == 0 {
				refusedInstOf(t, bad, 0, nil)
				refusedInstOf(t, bad, 14, nil)
				refusedInstOf(t, bad, 2, levelList(t, "0"))
			}
		}
	}
}

// Also where neither the type nor a constraint has that parameter.
func TestInstOfAtLevelsThatAreNotValid(t *testing.T) {
	decls := []impl.Decl{
		declOf(t, 3, "sort(0)"), declOf(t, 3, "c0(0, 0, 0) sort(0) pi"), declOf(t, 3, "sort(u0)"), declOf(t, 3, "sort(0)", le(2, 0)), declOf(t, 3, "sort(u2)", le(1, -1)), declOf(t, 3, "c77"),
	}
	good := levelList(t, "u0", "u1 s", "0")
	for n := range decls {
		for at := range 3 {
			for _, bad := range badLevels() {
				levels := slices.Clone(good)
				levels[at].Toks = bad
				refusedInstOf(t, decls, n, levels)
				hasNone(t, setting{nil, decls, nil}, []impl.TTok{{Op: impl.TmConst, N: n, Levels: levels}}, impl.TyForm)
			}
		}
		want, _ := expectedInst(decls[n].Type, good)
		if typ, _, ok := impl.InstOf(decls, n, good); !ok || !sameTToks(typ, want) {
			t.Errorf("InstOf %d: %v, %v", n, typ, ok)
		}
	}
}

func TestInstOfExamples(t *testing.T) {
	decls := library(t)
	decls = append(decls, declOf(t, 2, "c0", lt(0, 1), eq(1, -1), le(-1, 0)))
	for _, x := range []struct {
		n           int
		levels      []impl.Level
		typ, stated string
	}{
		{0, nil, "sort(0)", ""},
		{1, []impl.Level{}, "c0", ""},
		{2, levelList(t, "u4 s"), "sort(u4 s) sort(u4 s) pi", ""},
		{4, levelList(t, "u1 u0 imax"), "sort(u1 u0 imax) c2(u1 u0 imax) v0 app pi", ""},
		{5, levelList(t, "u1", "u0"), "sort(u1) v0 sort(u0) pi sort(u1 u0 max) pi pi", ""},
		{6, levelList(t, "u1", "0"), "sort(u1) sort(0) pi", "u1 < 0; "},
		{7, levelList(t, "u1", "0 s"), "sort(u1) sort(0 s) pi", "u1 <= 0 s; 0 s <= u1; "},
		{8, levelList(t, "0"), "sort(0 s)", "0 < 0; "},
		{9, levelList(t, "0", "u0", "u0 s", "u2", "u2 s"), "sort(0 u0 u0 s u2 u2 s max max max max)", "0 <= u0; u0 < u0 s; u2 <= u2 s; u2 s <= u2; "},
		{13, nil, "c0 c12 v0 app pi", ""},
		{14, levelList(t, "u3", "u4"), "c0", "u3 < u4; u4 <= 0; 0 <= u4; 0 <= u3; "},
	} {
		typ, pairs, ok := impl.InstOf(decls, x.n, x.levels)
		stated := ""
		for _, p := range pairs {
			relation := " <= "
			if p.Less {
				relation = " < "
			}
			stated += impl.LevelText(p.A) + relation + impl.LevelText(p.B) + "; "
		}
		if !ok || impl.TermText(typ) != x.typ || stated != x.stated {
			t.Errorf("InstOf %d at %v: %s, %s, %v", x.n, x.levels, impl.TermText(typ), stated, ok)
		}
	}
}

func TestTheOrderOfTheChecksOfADeclaration(t *testing.T) {
	decls := library(t)
	full := slices.Concat(decls, slices.Repeat(decls[:1], 6))
	crowd := append(slices.Clone(full), decls[0])
	never := []impl.Con{lt(0, 1), lt(1, 0)}
	for _, d := range invalidDecls(t) {
		refusedDecl(t, decls, d, impl.TyForm)
		refusedDecl(t, full, d, impl.TyForm)
		refusedDecl(t, nil, d, impl.TyForm)
		// Other declarations that are not valid.
		for _, bad := range [][]impl.Decl{{d}, append(slices.Clone(decls), d), append([]impl.Decl{d}, full[1:]...)} {
			refusedDecl(t, bad, decls[0], impl.TyForm)
			refusedDecl(t, bad, declOf(t, 2, "c99", never...), impl.TyForm)
		}
	}
	types := []failure{{"sort(u0)", impl.TyFine}, {"c1", impl.TySort}, {"c3(u1)", impl.TySort}, {"c0 c1 pi", impl.TySort}}
	for _, f := range append(types, failures()[1:]...) {
		refusedDecl(t, crowd, declOf(t, 2, f.text), impl.TyForm)
		refusedDecl(t, full, declOf(t, 2, f.text), impl.TyFull)
		refusedDecl(t, full, declOf(t, 2, f.text, never...), impl.TyFull)
		refusedDecl(t, decls, declOf(t, 2, f.text, never...), impl.TyCons)
		refusedDecl(t, full[:19], declOf(t, 2, f.text, never...), impl.TyCons)
		if f.code != impl.TyFine {
			refusedDecl(t, decls, declOf(t, 2, f.text), f.code)
			refusedDecl(t, full[:19], declOf(t, 2, f.text, le(0, 1)), f.code)
		}
	}
	refusedDecl(t, decls, declOf(t, 2, "v99"), impl.TyForm)
	refusedDecl(t, decls, declOf(t, 1, "sort(0)", lt(0, -1)), impl.TyCons)
	refusedDecl(t, decls, declOf(t, 1, "sort(0)", lt(0, 0)), impl.TyCons)
	refusedDecl(t, decls, declOf(t, 1, "sort(0)", eq(0, -1), lt(-1, 0)), impl.TyCons)
}

// The constraints of a declaration are what its type may rely on.
func TestDeclarationsThatUseOthers(t *testing.T) {
	decls := library(t)
	for _, x := range []struct {
		d    impl.Decl
		code int
	}{
		{declOf(t, 0, "c0"), impl.TyFine},
		{declOf(t, 0, "c2(0) c0 app"), impl.TyFine},
		{declOf(t, 0, "c12 c1 app"), impl.TyFine},
		{declOf(t, 0, "c13"), impl.TySort},
		{declOf(t, 0, "c13 c1 app"), impl.TySort},
		{declOf(t, 1, "c8(u0)"), impl.TyCons},
		{declOf(t, 1, "c8(u0)", lt(-1, 0)), impl.TyFine},
		{declOf(t, 2, "c6(u0, u1)", lt(0, 1)), impl.TySort},
		{declOf(t, 3, "sort(u2) c6(u0, u1) sort(u0) app pi", lt(0, 1)), impl.TyArg},
		{declOf(t, 2, "sort(u0) c6(u0, u1) v0 app pi", lt(0, 1)), impl.TyFine},
		{declOf(t, 2, "sort(u0) c6(u0, u1) v0 app pi", le(0, 1)), impl.TyCons},
		{declOf(t, 2, "sort(u0) c2(u1) v0 app pi", eq(0, 1)), impl.TyFine},
		{declOf(t, 2, "sort(u0) c2(u1) v0 app pi", le(0, 1)), impl.TyArg},
		{declOf(t, 2, "sort(u0) c2(u1) v0 app pi"), impl.TyArg},
		// One that is not there yet, also the declaration itself.
		{declOf(t, 0, "c14"), impl.TyConst},
		{declOf(t, 1, "c14(u0)"), impl.TyConst},
		{declOf(t, 0, "c0 c14 pi"), impl.TyConst},
		{declOf(t, 0, "c15"), impl.TyConst},
		{declOf(t, 1, "c0(u0)"), impl.TyConst},
	} {
		if x.code != impl.TyFine {
			refusedDecl(t, decls, x.d, x.code)
			continue
		}
		after := addDecl(t, decls, x.d)
		if !sameDecls(after[:14], decls) || !sameDecls(after[14:], []impl.Decl{x.d}) {
			t.Errorf("%v became %v", x.d, after)
		}
		judgement{setting{x.d.Cons, after, nil}, ownUse(14, x.d), x.d.Type}.hasItsType(t)
	}
	// Without the others, none of them can be used.
	for n := range decls {
		refusedDecl(t, decls[:n], declOf(t, decls[n].Params, impl.TermText(ownUse(n, decls[n]))), impl.TyConst)
	}
}

// In no list can a type be declared that has none; but what was made otherwise
// need only be valid.
func TestDeclarationsWhoseTypesHaveNoTypes(t *testing.T) {
	s := setting{nil, []impl.Decl{declOf(t, 0, "c0"), declOf(t, 1, "c99 v0 pi c1(u0) app"), declOf(t, 1, "sort(0)", lt(0, 0)), declOf(t, 0, "c7 sort(0) pi")}, ctxOf(t, "c7", "c8 c9 app")}
	hasType(t, s, "c0", "c0")
	hasType(t, s, "c1(u3 s)", "c99 v0 pi c1(u3 s) app")
	hasType(t, s, "v0", "c8 c9 app")
	hasType(t, s, "c3 v1 app", "sort(0)")
	hasNone(t, s, readTerm(t, "c3 v0 app"), impl.TyArg)
	hasNone(t, s, readTerm(t, "c0 v0 pi"), impl.TySort)
	hasNone(t, s, readTerm(t, "c2(u0)"), impl.TyCons)
	after := addDecl(t, s.decls, declOf(t, 0, "sort(0)"))
	if !sameDecls(after[:4], s.decls) {
		t.Error(after)
	}
}

func TestTypingExample(t *testing.T) {
	decls := addDecl(t, nil, declOf(t, 0, "sort(0)"))
	decls = addDecl(t, decls, declOf(t, 1, "sort(u0) sort(u0) pi"))
	s := setting{nil, decls, ctxOf(t, "sort(0)")}
	hasType(t, s, "c1(0) c0 app", "sort(0)")
	hasType(t, s, "c1(0) v0 app", "sort(0)")
	hasType(t, s, "c1(0) c1(0) v0 app app", "sort(0)")
	hasType(t, s, "c1(0)", "sort(0) sort(0) pi")
	hasNone(t, s, readTerm(t, "c1(0) sort(0) app"), impl.TyArg)
	hasNone(t, s, readTerm(t, "c1(0 s) v0 app"), impl.TyArg)
	hasType(t, s, "c1(0 s) sort(0) app", "sort(0 s)")
}

// slow are 14 uses of a function at these levels, each applied to the next one,
// and declarations for them.
func slow(t *testing.T, with [][]impl.Tok, cons []impl.Con) ([]impl.Decl, []impl.TTok) {
	t.Helper()
	var decls []impl.Decl
	for _, typ := range []string{"sort(0)", "c0(u0, u1, u2, u3, u4)", "c0(u0, u1, u2, u3, u4) c0(u0, u1, u2, u3, u4) pi"} {
		decls = append(decls, declOf(t, 5, typ, cons...))
	}
	x := []impl.TTok{constTok(1, with...)}
	for range 14 {
		x = slices.Concat([]impl.TTok{constTok(2, with...)}, x, []impl.TTok{appTok()})
	}
	return append(decls, slices.Repeat(decls[:1], 17)...), x
}

func TestTypingReturnsInGoodTime(t *testing.T) {
	within(t, time.Minute, func() {
		with := underLevels()[27:32]
		crowd := slices.Repeat([]impl.Term{{Toks: spine(constTok(0, with...), piTok(), 14)}}, 20)
		for _, list := range append(underLists(), fullList()) {
			decls, x := slow(t, with, nil)
			judgement{setting{list, decls, crowd}, x, []impl.TTok{constTok(0, with...)}}.hasItsType(t)
			decls, x = slow(t, with, fullList())
			if satisfying(list).none() {
				judgement{setting{list, decls, crowd}, x, []impl.TTok{constTok(0, with...)}}.hasItsType(t)
			} else {
				hasNone(t, setting{list, decls, crowd}, x, impl.TyCons)
			}
		}
		huge := spine(constTok(0), piTok(), 1000000)
		manyDecls, manyTypes := make([]impl.Decl, 1000000), make([]impl.Term, 1000000)
		many := slices.Repeat(levelList(t, "0"), 1000000)
		s := setting{make([]impl.Con, 1000000), manyDecls, manyTypes}
		hasNone(t, s, huge, impl.TyForm)
		hasNone(t, setting{nil, nil, []impl.Term{{Toks: huge}}}, readTerm(t, "c0"), impl.TyForm)
		refusedDecl(t, manyDecls, declOf(t, 0, "sort(0)"), impl.TyForm)
		isADecl(t, impl.Decl{Type: huge}, false)
		isADecl(t, impl.Decl{Type: []impl.TTok{{Op: impl.TmConst, Levels: many}}}, false)
		isADecl(t, impl.Decl{Params: 5, Cons: make([]impl.Con, 1000000), Type: readTerm(t, "sort(0)")}, false)
		refusedInstOf(t, library(t), 0, many)
		refusedInstOf(t, manyDecls, 0, nil)
	})
}
