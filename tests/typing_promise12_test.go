package tests

import (
	"slices"
	"testing"

	"loop.example/g00744/impl"
)

// several checks that each of the codes came about often enough.
func several(t *testing.T, codes map[int]int, times int, want ...int) {
	t.Helper()
	for _, code := range want {
		if codes[code] < times {
			t.Errorf("code %d came about %d times: %v", code, codes[code], codes)
		}
	}
}

func TestPromise12TypesAreThoseOfTheNamedTerm(t *testing.T) {
	small, codes := smallTerms(t), map[int]int{}
	for i, s := range settings(t) {
		for k, x := range small {
			if k < 300 || (i*5+k)%17 == 0 {
				_, code := checkInfer(t, s, x)
				codes[code]++
			}
		}
		for seed := range 160 {
			c := chooser(seed*9001 + i*77 + 5)
			_, code := checkInfer(t, s, c.termIn(s, 1+seed%4))
			codes[code]++
		}
	}
	several(t, codes, 50, impl.TyFine, impl.TyVar, impl.TySort, impl.TyPi, impl.TyArg, impl.TyConst, impl.TyCons, impl.TyBig)
}

func TestPromise12TheTypeOfASortIsTheNextSort(t *testing.T) {
	levels := slices.Concat(shortLevels(3), underLevels(), longLevels(t))
	for n := 1; n <= 24; n++ {
		levels = append(levels, tower(n))
	}
	for _, s := range settings(t) {
		for _, l := range levels {
			next := slices.Concat(l, []impl.Tok{{Op: impl.OpSucc}})
			if len(l) == 24 {
				hasNone(t, s, []impl.TTok{sortTok(l)}, impl.TyBig)
				continue
			}
			judgement{s, []impl.TTok{sortTok(l)}, []impl.TTok{sortTok(next)}}.hasItsType(t)
			if sort, code := impl.SortOf(s.list, s.decls, s.ctx, []impl.TTok{sortTok(l)}); code != impl.TyFine || !slices.Equal(sort, next) {
				t.Fatalf("SortOf sort(%s) is %v, %d", impl.LevelText(l), sort, code)
			}
		}
	}
}

// The second type stands where there is one variable more.
func TestPromise12TheTypeOfAPiIsTheSortOfTheImax(t *testing.T) {
	codes := map[int]int{}
	sorts := slices.DeleteFunc(slices.Clone(judgements(t)), func(j judgement) bool { return !isSort(j.typ) })
	for k, a := range sorts {
		for i := k % 29; i < len(sorts); i += 29 {
			b := sorts[i]
			up, _ := expectedLift(b.x, 1)
			x := slices.Concat(a.x, up, []impl.TTok{piTok()})
			if len(a.ctx) != len(b.ctx) || !slices.Equal(a.list, b.list) || len(x) > 30 {
				continue
			}
			want := []impl.TTok{sortTok(slices.Concat(a.typ[0].Levels[0].Toks, b.typ[0].Levels[0].Toks, []impl.Tok{{Op: impl.OpImax}}))}
			code := impl.TyFine
			switch {
			case len(a.ctx)+1+namedOf(b.x).bound() > 20 || len(a.ctx)+namedOf(a.x).bound() > 20:
				code = impl.TyVar
			case len(want[0].Levels[0].Toks) > 24:
				code = impl.TyBig
			}
			if codes[code]++; code != impl.TyFine {
				hasNone(t, a.setting, x, code)
			} else {
				judgement{a.setting, x, want}.hasItsType(t)
			}
		}
	}
	several(t, codes, 50, impl.TyFine, impl.TyVar, impl.TyBig)
}

// moreConstraints have those of the list and others, before and behind them and
// in between, also such that nothing satisfies all of them.
func moreConstraints(list []impl.Con, k int) [][]impl.Con {
	all := allCons()
	out := [][]impl.Con{slices.Concat(list, list), slices.Concat([]impl.Con{lt(0, 0)}, list), slices.Concat(list, fullList()[len(list):])}
	for i := k % 13; i < len(all); i += 13 {
		out = append(out, withCon(list, all[i]), slices.Insert(slices.Clone(list), i%(len(list)+1), all[i*7%len(all)], all[i*31%len(all)]))
	}
	return out
}

func TestPromise12MoreConstraintsKeepTypes(t *testing.T) {
	kept := 0
	for k, j := range judgements(t) {
		if k%3 > 0 && len(j.x) < 6 {
			continue
		}
		for _, list := range moreConstraints(j.list, k) {
			judgement{j.setting.under(list...), j.x, j.typ}.hasItsType(t)
			kept++
		}
	}
	if kept < 10000 {
		t.Error("few judgements:", kept)
	}
}

// typesToAdd are what one more variable of the context can have as its type,
// which need not have a type itself.
func typesToAdd(t *testing.T, s setting) [][]impl.TTok {
	t.Helper()
	out := readTerms(t, "sort(u4 s)", "c0", "c55(u3) v0 pi", "c1 c1 app")
	if n := len(s.ctx); n > 0 {
		out = append(out, []impl.TTok{varTok(0)}, []impl.TTok{varTok(n - 1)}, []impl.TTok{varTok(n - 1), varTok(n), piTok()})
	}
	return out
}

func TestPromise12LiftedTermsHaveLiftedTypes(t *testing.T) {
	codes := map[int]int{}
	for k, j := range judgements(t) {
		up, _ := expectedLift(j.x, 1)
		for i, a := range typesToAdd(t, j.setting) {
			if len(j.x) < 6 && (i+k)%4 > 0 {
				continue
			}
			larger := j.setting.with(a)
			room := len(larger.ctx)+namedOf(j.x).bound() <= 20
			switch {
			case room:
				want, _ := expectedLift(j.typ, 1)
				judgement{larger, up, want}.hasItsType(t)
				codes[impl.TyFine]++
			case len(larger.ctx) <= 20:
				hasNone(t, larger, up, impl.TyVar)
				codes[impl.TyVar]++
			default:
				hasNone(t, larger, up, impl.TyForm)
				codes[impl.TyForm]++
			}
		}
	}
	several(t, codes, 50, impl.TyFine, impl.TyVar, impl.TyForm)
	several(t, codes, 2000, impl.TyFine)
}

func TestPromise12TermsLiftedByMoreThanOne(t *testing.T) {
	for k, j := range judgements(t) {
		if k%4 > 0 {
			continue
		}
		larger := j.setting
		for n := 1; len(larger.ctx)+namedOf(j.x).bound() < 20; n++ {
			types := typesToAdd(t, larger)
			larger = larger.with(types[(k+n)%len(types)])
			up, _ := expectedLift(j.x, n)
			want, _ := expectedLift(j.typ, n)
			judgement{larger, up, want}.hasItsType(t)
		}
		up, _ := expectedLift(j.x, 20-namedOf(j.x).bound()-len(j.ctx)+1)
		larger = larger.with(readTerm(t, "c0"))
		if namedOf(j.x).bound() > 0 {
			hasNone(t, larger, up, impl.TyVar)
		}
	}
}

// What comes before a context is seen by none of its types.
func TestPromise12TypesBeforeTheOthersChangeNothing(t *testing.T) {
	for k, j := range judgements(t) {
		for n := 1; k%4 == 0 && n+len(j.ctx)+namedOf(j.x).bound() <= 20; n += 3 {
			before := slices.Repeat(ctxOf(t, "sort(u2)", "v0"), 10)[:n]
			larger := j.setting
			larger.ctx = slices.Concat(before, j.ctx)
			judgement{larger, j.x, j.typ}.hasItsType(t)
		}
	}
}

// In 20 types there is no room for another one, but on the way into an A, a
// function or an argument none is needed.
func TestPromise12NoRoomForTheTypesOfThePis(t *testing.T) {
	decls := library(t)
	for n := range 21 {
		s := setting{nil, decls, slices.Repeat(ctxOf(t, "c0"), n)}
		for deep := range 12 {
			x := nest(constTok(0), piTok(), deep)
			if n+deep > 20 {
				hasNone(t, s, x, impl.TyVar)
				hasNone(t, s, slices.Concat(readTerm(t, "c2(0)"), x, []impl.TTok{appTok()}), impl.TyVar)
				continue
			}
			typ := []impl.TTok{sortTok(nestOfImax(deep))}
			judgement{s, x, typ}.hasItsType(t)
			judgement{s, slices.Concat(readTerm(t, "c2(0)"), x, []impl.TTok{appTok()}), readTerm(t, "sort(0)")}.hasItsType(t)
		}
		for wide := range 12 {
			x := spine(constTok(0), piTok(), wide)
			if wide > 0 && n == 20 {
				hasNone(t, s, x, impl.TyVar)
			} else if _, code := s.infer(x); code != impl.TyFine {
				t.Errorf("%s in %d types: %d", impl.TermText(x), n, code)
			}
		}
	}
}

// nestOfImax is the level of TmPis between types of sort(0).
func nestOfImax(n int) []impl.Tok {
	out := slices.Repeat([]impl.Tok{{Op: impl.OpZero}}, n+1)
	return append(out, slices.Repeat([]impl.Tok{{Op: impl.OpImax}}, n)...)
}

// A closed term with a type may be the type of a declaration.
func closedJudgements(t *testing.T) []judgement {
	t.Helper()
	var out []judgement
	for i, list := range underLists() {
		s := setting{list, library(t), nil}
		for seed := range 40 {
			c := chooser(seed*811 + i*7 + 3)
			x := c.termIn(s, 1+seed%4)
			typ, _ := typeIn(s, x)
			out = append(out, judgement{s, x, typ})
		}
	}
	return out
}

func TestPromise12DeclarationsAtTheirOwnParameters(t *testing.T) {
	codes := map[int]int{}
	for _, j := range closedJudgements(t) {
		d := impl.Decl{Params: 5, Cons: j.list, Type: j.x}
		code := expectedCheck(j.decls, d)
		if codes[code]++; code != impl.TyFine {
			refusedDecl(t, j.decls, d, code)
			continue
		}
		n := len(j.decls)
		decls := addDecl(t, j.decls, d)
		if !sameDecls(decls[:n], library(t)) || !sameDecls(decls[n:], []impl.Decl{d}) || !impl.DeclsOk(decls) {
			t.Fatalf("%v became %v with %v", j.decls, decls, d)
		}
		for i, known := range decls {
			judgement{setting{known.Cons, decls, nil}, ownUse(i, known), known.Type}.hasItsType(t)
		}
		for _, ctx := range [][]impl.Term{families(t), slices.Repeat(ctxOf(t, "c0"), 20)} {
			judgement{setting{moreConstraints(d.Cons, len(d.Type))[2], decls, ctx}, ownUse(n, d), d.Type}.hasItsType(t)
		}
	}
	several(t, codes, 5, impl.TyForm, impl.TySort, impl.TyArg, impl.TyCons, impl.TyBig)
	several(t, codes, 200, impl.TyFine)
}

// What was accepted stays, one declaration after the other, until there are 20.
func TestPromise12EveryDeclarationOfAFullList(t *testing.T) {
	decls, codes := library(t), map[int]int{}
	for _, j := range closedJudgements(t) {
		d := impl.Decl{Params: 5, Cons: j.list, Type: j.x}
		code := expectedCheck(decls, d)
		if codes[code]++; code != impl.TyFine {
			refusedDecl(t, decls, d, code)
			continue
		}
		known := decls
		decls = addDecl(t, known, d)
		if !sameDecls(decls[:len(known)], known) {
			t.Fatalf("%v became %v", known, decls)
		}
	}
	several(t, codes, 50, impl.TyForm, impl.TyFull)
	if len(decls) != 20 {
		t.Fatal(len(decls), "declarations")
	}
	for i, d := range decls {
		judgement{setting{d.Cons, decls, nil}, ownUse(i, d), d.Type}.hasItsType(t)
	}
}

// A type, instantiated as the declaration is, is the type of its use at these
// levels.
func TestPromise12DeclarationsAtOtherLevels(t *testing.T) {
	codes := map[int]int{}
	decls := library(t)
	for _, list := range append(underLists(), []impl.Con{lt(0, 1), lt(1, 2), eq(3, 4)}) {
		s := setting{list, decls, nil}
		for seed := range 60 {
			c := chooser(seed*37 + 1)
			n := c.below(len(decls))
			var levels [][]impl.Tok
			for range decls[n].Params {
				levels = append(levels, c.commonLevel())
			}
			typ, code := checkInfer(t, s, []impl.TTok{constTok(n, levels...)})
			codes[code]++
			inst, pairs, ok := impl.InstOf(decls, n, asLevels(levels...))
			if want, wantOk := expectedInst(decls[n].Type, asLevels(levels...)); ok != wantOk || !sameTToks(inst, want) {
				t.Fatalf("InstOf %d at %v is %v, %v", n, levels, inst, ok)
			}
			if code == impl.TyFine && (!ok || !sameTToks(typ, inst)) || ok && impl.PairsUnder(list, pairs) != (code == impl.TyFine) {
				t.Fatalf("c%d at %v under %v has the type %v, %d, and InstOf is %v, %v, %v", n, levels, list, typ, code, inst, pairs, ok)
			}
		}
	}
	several(t, codes, 50, impl.TyFine, impl.TyCons, impl.TyBig)
}
