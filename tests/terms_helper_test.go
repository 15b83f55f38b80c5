package tests

import (
	"slices"
	"strconv"
	"strings"
	"sync"
	"testing"

	"loop.example/g00744/impl"
)

func varTok(n int) impl.TTok         { return impl.TTok{Op: impl.TmVar, N: n} }
func piTok() impl.TTok               { return impl.TTok{Op: impl.TmPi} }
func appTok() impl.TTok              { return impl.TTok{Op: impl.TmApp} }
func sortTok(l []impl.Tok) impl.TTok { return impl.TTok{Op: impl.TmSort, Levels: asLevels(l)} }
func constTok(n int, l ...[]impl.Tok) impl.TTok {
	return impl.TTok{Op: impl.TmConst, N: n, Levels: asLevels(l...)}
}

func asLevels(list ...[]impl.Tok) []impl.Level {
	var out []impl.Level
	for _, l := range list {
		out = append(out, impl.Level{Toks: l})
	}
	return out
}

func sameLevels(a, b []impl.Level) bool {
	return slices.EqualFunc(a, b, func(x, y impl.Level) bool { return slices.Equal(x.Toks, y.Toks) })
}

func sameTToks(a, b []impl.TTok) bool {
	return slices.EqualFunc(a, b, func(x, y impl.TTok) bool {
		return x.Op == y.Op && x.N == y.N && sameLevels(x.Levels, y.Levels)
	})
}

func copiedTerm(x []impl.TTok) []impl.TTok {
	out := slices.Clone(x)
	for i, tok := range out {
		out[i].Levels = nil
		for _, l := range tok.Levels {
			out[i].Levels = append(out[i].Levels, impl.Level{Toks: slices.Clone(l.Toks)})
		}
	}
	return out
}

// wordsOf splits a text at the blanks that are not within a word's levels.
func wordsOf(text string) []string {
	var out []string
	start, within := 0, false
	for i, r := range text + " " {
		switch {
		case r == '(':
			within = true
		case r == ')':
			within = false
		case r == ' ' && !within:
			out = append(out, text[start:i])
			start = i + 1
		}
	}
	return out
}

// readTerm reads what TermText writes. The result need not be a valid term.
func readTerm(t *testing.T, text string) []impl.TTok {
	t.Helper()
	var out []impl.TTok
	for _, word := range wordsOf(text) {
		name, inside, hasLevels := strings.Cut(strings.TrimSuffix(word, ")"), "(")
		tok := impl.TTok{Op: map[byte]int{'s': impl.TmSort, 'v': impl.TmVar, 'p': impl.TmPi, 'a': impl.TmApp, 'c': impl.TmConst}[name[0]]}
		if tok.Op == impl.TmVar || tok.Op == impl.TmConst {
			n, err := strconv.Atoi(name[1:])
			if err != nil {
				t.Fatal(err)
			}
			tok.N = n
		}
		if hasLevels {
			tok.Levels = levelList(t, strings.Split(inside, ", ")...)
		}
		out = append(out, tok)
	}
	return out
}

func readTerms(t *testing.T, texts ...string) [][]impl.TTok {
	t.Helper()
	var out [][]impl.TTok
	for _, text := range texts {
		out = append(out, readTerm(t, text))
	}
	return out
}

func expectedText(x []impl.TTok) string {
	var words []string
	for _, tok := range x {
		word := map[int]string{impl.TmSort: "sort", impl.TmVar: "v", impl.TmPi: "pi", impl.TmApp: "app", impl.TmConst: "c"}[tok.Op]
		if tok.Op == impl.TmVar || tok.Op == impl.TmConst {
			word += strconv.Itoa(tok.N)
		}
		for i, l := range tok.Levels {
			word += []string{"(", ", "}[min(i, 1)] + impl.LevelText(l.Toks)
			if i == len(tok.Levels)-1 {
				word += ")"
			}
		}
		words = append(words, word)
	}
	return strings.Join(words, " ")
}

// A named term has no indices: each variable points to the TmPi that binds it,
// or is free and has its number outside of the term.
type named struct {
	tok    impl.TTok
	a, b   *named
	binder *named
	free   int
}

// namedBack reads a term from the last token backwards, so that a TmPi comes
// before the variables that it binds.
func namedBack(x []impl.TTok, scope []*named) (*named, []impl.TTok) {
	if len(x) == 0 {
		return nil, nil
	}
	n, rest := &named{tok: x[len(x)-1]}, x[:len(x)-1]
	inner := scope
	switch n.tok.Op {
	case impl.TmVar:
		if at := len(scope) - 1 - n.tok.N; at >= 0 {
			n.binder = scope[at]
		} else {
			n.free = -1 - at
		}
		return n, rest
	case impl.TmSort, impl.TmConst:
		return n, rest
	case impl.TmPi:
		inner = append(slices.Clone(scope), n)
	}
	n.b, rest = namedBack(rest, inner)
	if n.b == nil {
		return nil, nil
	}
	n.a, rest = namedBack(rest, scope)
	if n.a == nil {
		return nil, nil
	}
	return n, rest
}

func isTTok(tok impl.TTok) bool {
	for _, l := range tok.Levels {
		if treeOf(l.Toks) == nil {
			return false
		}
	}
	index := 0 <= tok.N && tok.N <= 99
	switch tok.Op {
	case impl.TmSort:
		return tok.N == 0 && len(tok.Levels) == 1
	case impl.TmVar:
		return index && len(tok.Levels) == 0
	case impl.TmPi, impl.TmApp:
		return tok.N == 0 && len(tok.Levels) == 0
	}
	return tok.Op == impl.TmConst && index && len(tok.Levels) <= 5
}

// namedOf returns nil for what the chapter does not call a valid term.
func namedOf(x []impl.TTok) *named {
	if len(x) > 30 || slices.ContainsFunc(x, func(tok impl.TTok) bool { return !isTTok(tok) }) {
		return nil
	}
	n, rest := namedBack(x, nil)
	if len(rest) > 0 {
		return nil
	}
	return n
}

func (n *named) isFree() bool {
	return n.tok.Op == impl.TmVar && n.binder == nil
}

// tokens counts the TmPis between each variable and the one that binds it.
func (n *named) tokens(scope ...*named) []impl.TTok {
	tok, inner := n.tok, scope
	switch {
	case n.isFree():
		tok.N = n.free + len(scope)
	case n.binder != nil:
		tok.N = len(scope) - 1 - slices.Index(scope, n.binder)
	case tok.Op == impl.TmPi:
		inner = append(slices.Clone(scope), n)
	}
	if n.a == nil {
		return []impl.TTok{tok}
	}
	return slices.Concat(n.a.tokens(scope...), n.b.tokens(inner...), []impl.TTok{tok})
}

func (n *named) open() int {
	switch {
	case n.isFree():
		return n.free + 1
	case n.a == nil:
		return 0
	}
	return max(n.a.open(), n.b.open())
}

// occurs counts how often the free variable is there.
func (n *named) occurs(free int) int {
	switch {
	case n.isFree() && n.free == free:
		return 1
	case n.a == nil:
		return 0
	}
	return n.a.occurs(free) + n.b.occurs(free)
}

// lifted changes the term itself.
func (n *named) lifted(by int) *named {
	if n.isFree() {
		n.free += by
	}
	if n.a != nil {
		n.a.lifted(by)
		n.b.lifted(by)
	}
	return n
}

// with changes the term itself, in which x may then stand in several places.
func (n *named) with(x *named) *named {
	if n.isFree() {
		if n.free == 0 {
			return x
		}
		n.free--
	}
	if n.a != nil {
		n.a, n.b = n.a.with(x), n.b.with(x)
	}
	return n
}

func validTerm(x []impl.TTok) ([]impl.TTok, bool) {
	if namedOf(x) == nil {
		return nil, false
	}
	return x, true
}

// expectedLift is asked of valid terms and numbers only, as are those below.
func expectedLift(x []impl.TTok, n int) ([]impl.TTok, bool) {
	return validTerm(namedOf(x).lifted(n).tokens())
}

func expectedTermPut(x, y []impl.TTok) ([]impl.TTok, bool) {
	return validTerm(namedOf(x).with(namedOf(y)).tokens())
}

func expectedInst(x []impl.TTok, with []impl.Level) ([]impl.TTok, bool) {
	out := copiedTerm(x)
	for _, tok := range out {
		for i, l := range tok.Levels {
			toks, ok := impl.LevelSubst(l.Toks, with)
			if !ok {
				return nil, false
			}
			tok.Levels[i].Toks = toks
		}
	}
	return out, true
}

func expectedSame(list []impl.Con, a, b []impl.TTok) bool {
	if len(a) != len(b) {
		return false
	}
	for i, x := range a {
		y := b[i]
		if x.Op != y.Op || x.N != y.N || len(x.Levels) != len(y.Levels) {
			return false
		}
		for k := range x.Levels {
			if !impl.EqUnder(list, x.Levels[k].Toks, y.Levels[k].Toks) {
				return false
			}
		}
	}
	return true
}

func checkTerm(t *testing.T, got []impl.TTok, ok bool, want []impl.TTok, wantOk bool, what string, args ...any) {
	t.Helper()
	if ok != wantOk || !sameTToks(got, want) {
		t.Fatalf("%s of %v = %v, %v, not %v, %v", what, args, got, ok, want, wantOk)
	}
	if ok && !impl.TermOk(got) {
		t.Fatalf("%s of %v = %v, which is not valid", what, args, got)
	}
}

// checkLift, checkTermPut and checkInst also return whether there is a result.

func checkLift(t *testing.T, x []impl.TTok, n int) ([]impl.TTok, bool) {
	t.Helper()
	got, ok := impl.TermLift(x, n)
	want, wantOk := expectedLift(x, n)
	checkTerm(t, got, ok, want, wantOk, "TermLift", x, n)
	return got, ok
}

func checkTermPut(t *testing.T, x, y []impl.TTok) ([]impl.TTok, bool) {
	t.Helper()
	got, ok := impl.TermPut(x, y)
	want, wantOk := expectedTermPut(x, y)
	checkTerm(t, got, ok, want, wantOk, "TermPut", x, y)
	return got, ok
}

func checkInst(t *testing.T, x []impl.TTok, with []impl.Level) ([]impl.TTok, bool) {
	t.Helper()
	got, ok := impl.TermInst(x, with)
	want, wantOk := expectedInst(x, with)
	checkTerm(t, got, ok, want, wantOk, "TermInst", x, with)
	return got, ok
}

func noTerm(t *testing.T, x []impl.TTok, ok bool) {
	t.Helper()
	if ok || len(x) != 0 {
		t.Errorf("%v, %v", x, ok)
	}
}

func refusedLift(t *testing.T, x []impl.TTok, n int) {
	t.Helper()
	out, ok := impl.TermLift(x, n)
	noTerm(t, out, ok)
}

func refusedTermPut(t *testing.T, x, y []impl.TTok) {
	t.Helper()
	out, ok := impl.TermPut(x, y)
	noTerm(t, out, ok)
}

func refusedInst(t *testing.T, x []impl.TTok, with []impl.Level) {
	t.Helper()
	out, ok := impl.TermInst(x, with)
	noTerm(t, out, ok)
}

// notATerm checks what every function returns for a term that is not valid.
func notATerm(t *testing.T, x []impl.TTok) {
	t.Helper()
	if open, text := impl.TermOpen(x), impl.TermText(x); impl.TermOk(x) || open != -1 || text != "" {
		t.Errorf("%v is valid: %v, %d, %q", x, impl.TermOk(x), open, text)
	}
	for _, with := range [][]impl.Level{nil, levelList(t, "u0", "u1", "u2", "u3", "u4")} {
		refusedInst(t, x, with)
	}
	for _, n := range []int{-1, 0, 1, 99, 100} {
		refusedLift(t, x, n)
	}
	refusedTermPut(t, x, x)
	for _, y := range readTerms(t, "v0", "v1", "c0", "sort(u0) v0 pi") {
		refusedTermPut(t, x, y)
		refusedTermPut(t, y, x)
	}
	for _, list := range [][]impl.Con{nil, {lt(0, 0)}, {scribbleCon}} {
		for _, y := range append(readTerms(t, "v0", "sort(0)", "c0"), x) {
			if impl.TermSame(list, x, y) || impl.TermSame(list, y, x) {
				t.Errorf("%v and %v are the same under %v", x, y, list)
			}
		}
	}
}

func goodTToks() []impl.TTok {
	u0, next := []impl.Tok{{Op: impl.OpParam}}, []impl.Tok{{Op: impl.OpParam, N: 1}, {Op: impl.OpSucc}}
	return []impl.TTok{sortTok(next), varTok(0), varTok(1), varTok(2), constTok(7, u0, next), piTok(), appTok()}
}

var shortTermsOf = map[int][][]impl.TTok{}

// shortTerms are all terms of at most n good tokens.
func shortTerms(n int) [][]impl.TTok {
	if shortTermsOf[n] != nil {
		return shortTermsOf[n]
	}
	toks := goodTToks()
	var places []impl.Tok
	for i := range toks {
		places = append(places, impl.Tok{N: i})
	}
	sequences(places, n, func(l []impl.Tok) {
		var x []impl.TTok
		for _, place := range l {
			x = append(x, toks[place.N])
		}
		if namedOf(x) != nil {
			shortTermsOf[n] = append(shortTermsOf[n], x)
		}
	})
	return shortTermsOf[n]
}

// spine is 2 * n + 1 tokens, each of the ops with what is there already as its
// first operand.
func spine(leaf impl.TTok, op impl.TTok, n int) []impl.TTok {
	out := []impl.TTok{leaf}
	for range n {
		out = append(out, leaf, op)
	}
	return out
}

// nest is 2 * n + 1 tokens, each of the ops with all that comes after it as its
// second operand.
func nest(leaf impl.TTok, op impl.TTok, n int) []impl.TTok {
	return slices.Concat(slices.Repeat([]impl.TTok{leaf}, n+1), slices.Repeat([]impl.TTok{op}, n))
}

func longTerms() [][]impl.TTok {
	var out [][]impl.TTok
	for _, op := range []impl.TTok{piTok(), appTok()} {
		for _, n := range []int{0, 1, 6, 7, 13, 14, 15, 50, 84, 85, 99} {
			out = append(out, spine(varTok(n), op, 14), nest(varTok(n), op, 14), nest(varTok(n), op, 6))
		}
		out = append(out, nest(sortTok(tower(24)), op, 14), spine(constTok(99, underLevels()[10:15]...), op, 14))
	}
	ladder := nest(varTok(0), piTok(), 14)
	for i := range 15 {
		ladder[i].N = i + i%3 - 1
	}
	ladder[0].N = 0
	return append(out, ladder, slices.Concat(ladder[:8], slices.Repeat([]impl.TTok{appTok(), piTok()}, 4)[:7]))
}

// index is mostly near to where a variable ceases to be bound.
func (c *chooser) index(depth int) int {
	switch c.below(9) {
	case 0:
		return c.below(100)
	case 1:
		return 99 - c.below(3)
	case 2:
		return c.below(depth + 1)
	}
	return max(depth+c.below(4)-1, 0)
}

func (c *chooser) leaf(depth int) impl.TTok {
	levels := underLevels()
	switch c.below(8) {
	case 0:
		return sortTok(levels[c.below(len(levels))])
	case 1:
		var some [][]impl.Tok
		for range c.below(6) {
			some = append(some, levels[c.below(len(levels)/2)])
		}
		return constTok(c.below(100), some...)
	}
	return varTok(c.index(depth))
}

func (c *chooser) term(leaves, depth int) []impl.TTok {
	if leaves == 1 {
		return []impl.TTok{c.leaf(depth)}
	}
	left := 1 + c.below(leaves-1)
	if c.below(3) == 0 {
		return slices.Concat(c.term(left, depth), c.term(leaves-left, depth), []impl.TTok{appTok()})
	}
	return slices.Concat(c.term(left, depth), c.term(leaves-left, depth+1), []impl.TTok{piTok()})
}

// someTerms are of many kinds and lengths, up to the longest ones.
var someTerms = sync.OnceValue(func() [][]impl.TTok {
	out := append(longTerms(), shortTerms(3)...)
	for seed := range 150 {
		c := chooser(seed*7001 + 13)
		out = append(out, c.term(1+seed%15, 0))
	}
	return out
})

// putTerms are what the tests put for a variable: also terms that are long, that
// have free variables, and that bind some of their own.
func putTerms(t *testing.T) [][]impl.TTok {
	t.Helper()
	out := readTerms(t, "v0", "v1", "v4", "v98", "v99", "sort(u0)", "c0", "c5(u0, u1 s)", "v0 v1 app", "v0 v0 pi", "v0 v1 pi", "v2 v0 pi v3 app",
		"sort(0) v0 v1 v2 app app pi", "v0 v0 v0 v0 pi pi pi", "v0 v1 v2 v3 pi pi pi", "v5 v0 v1 v2 pi app v4 pi pi")
	return append(out, nest(varTok(14), piTok(), 14), spine(varTok(85), appTok(), 6), nest(varTok(99), piTok(), 2))
}
