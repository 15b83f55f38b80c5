package tests

import (
	"slices"
	"sync"
	"testing"

	"loop.example/g00744/impl"
)

func newOp(p int) impl.SOp              { return impl.SOp{Kind: impl.SoNew, P: p} }
func addOp(c impl.Con) impl.SOp         { return impl.SOp{Kind: impl.SoAdd, Con: c} }
func pushOp() impl.SOp                  { return impl.SOp{Kind: impl.SoPush} }
func popOp() impl.SOp                   { return impl.SOp{Kind: impl.SoPop} }
func leOp(a, b []impl.Tok) impl.SOp     { return impl.SOp{Kind: impl.SoLe, A: a, B: b} }
func eqOp(a, b []impl.Tok) impl.SOp     { return impl.SOp{Kind: impl.SoEq, A: a, B: b} }
func codeOnly(code int) impl.Ans        { return impl.Ans{Code: code} }
func session(f ...impl.Frame) impl.Sess { return impl.Sess{Frames: f} }

func frame(params []int, cons ...impl.Con) impl.Frame {
	return impl.Frame{Params: params, Cons: cons}
}

func sameSession(a, b impl.Sess) bool {
	return slices.EqualFunc(a.Frames, b.Frames, func(f, g impl.Frame) bool {
		return slices.Equal(f.Params, g.Params) && slices.Equal(f.Cons, g.Cons)
	})
}

func sameAnswer(a, b impl.Ans) bool {
	return a.Code == b.Code && slices.Equal(a.Env, b.Env)
}

// copiedSession keeps what a session is, whatever is done with its memory.
func copiedSession(s impl.Sess) impl.Sess {
	var out impl.Sess
	for _, f := range s.Frames {
		out.Frames = append(out.Frames, frame(slices.Clone(f.Params), slices.Clone(f.Cons)...))
	}
	return out
}

// did executes an operation and checks its answer and the session after it.
func did(t *testing.T, s impl.Sess, o impl.SOp, ans impl.Ans, after impl.Sess) {
	t.Helper()
	next, told := impl.SessDo(s, o)
	if !sameAnswer(told, ans) || !sameSession(next, after) {
		t.Fatalf("SessDo(%v, %v) = %v, %v, not %v, %v", s, o, next, told, after, ans)
	}
}

// refusedOp checks that an operation on a valid session has a code without an
// env, and changes nothing.
func refusedOp(t *testing.T, s impl.Sess, o impl.SOp, code int) {
	t.Helper()
	did(t, s, o, codeOnly(code), s)
}

// notASession checks what every function returns for a session that is not
// valid.
func notASession(t *testing.T, s impl.Sess) {
	t.Helper()
	if impl.SessOk(s) {
		t.Errorf("SessOk(%v)", s)
	}
	if live := impl.SessLive(s); len(live) != 0 {
		t.Errorf("SessLive(%v) = %v", s, live)
	}
	if cons := impl.SessCons(s); len(cons) != 0 {
		t.Errorf("SessCons(%v) = %v", s, cons)
	}
	zero := []impl.Tok{{Op: impl.OpZero}}
	for _, o := range []impl.SOp{newOp(0), newOp(4), newOp(5), addOp(le(-1, -1)), addOp(lt(-1, -1)), addOp(le(0, 1)), addOp(le(0, 5)), pushOp(), popOp(),
		leOp(zero, zero), eqOp(zero, zero), leOp(zero, nil), {}, {Kind: 7}} {
		did(t, s, o, codeOnly(impl.AnsForm), impl.Sess{})
	}
}

func isParam(p int) bool {
	return p >= 0 && p <= 4
}

// isSession is what the chapter calls a valid session, found by trying all values.
func isSession(s impl.Sess) bool {
	if len(s.Frames) < 1 || len(s.Frames) > 8 {
		return false
	}
	declaredIn := map[int]int{-1: -1}
	for i, f := range s.Frames {
		for _, p := range f.Params {
			if _, twice := declaredIn[p]; twice || !isParam(p) {
				return false
			}
			declaredIn[p] = i
		}
	}
	var all []impl.Con
	for i, f := range s.Frames {
		for _, c := range f.Cons {
			u, okU := declaredIn[c.U]
			v, okV := declaredIn[c.V]
			if !okU || !okV || u > i || v > i || c.Rel < 0 || c.Rel > 2 {
				return false
			}
			all = append(all, c)
		}
	}
	return len(all) <= 24 && !satisfying(all).none()
}

// What stands in a ledger, with the number of the frame to which it belongs.
type placed[T any] struct {
	frame int
	what  T
}

// A ledger is another way to keep a session: all declarations stand in one
// list, and all constraints in another one.
type ledger struct {
	top    int
	params []placed[int]
	cons   []placed[impl.Con]
}

func (l ledger) live() []int {
	var out []int
	for p := range impl.MaxParams {
		if l.isLive(p) {
			out = append(out, p)
		}
	}
	return out
}

func (l ledger) isLive(p int) bool {
	return slices.ContainsFunc(l.params, func(x placed[int]) bool { return x.what == p })
}

func (l ledger) allCons() []impl.Con {
	var out []impl.Con
	for _, x := range l.cons {
		out = append(out, x.what)
	}
	return out
}

func (l ledger) session() impl.Sess {
	out := impl.Sess{Frames: make([]impl.Frame, l.top+1)}
	for _, x := range l.params {
		f := &out.Frames[x.frame]
		f.Params = append(f.Params, x.what)
	}
	for _, x := range l.cons {
		f := &out.Frames[x.frame]
		f.Cons = append(f.Cons, x.what)
	}
	return out
}

// A step is an operation; that of a question asks about this pair of underLevels.
type step struct {
	op   impl.SOp
	pair pair
}

func ask(kind int, p pair) step {
	a, b := p.levels()
	return step{op: impl.SOp{Kind: kind, A: a, B: b}, pair: p}
}

func stepsOf(ops ...impl.SOp) []step {
	var out []step
	for _, o := range ops {
		out = append(out, step{op: o})
	}
	return out
}

// after returns the ledger after a step, and the answer to it.
func (l ledger) after(t *testing.T, s step) (ledger, impl.Ans) {
	t.Helper()
	switch s.op.Kind {
	case impl.SoNew:
		if !isParam(s.op.P) || l.isLive(s.op.P) {
			return l, codeOnly(impl.AnsForm)
		}
		l.params = append(slices.Clone(l.params), placed[int]{l.top, s.op.P})
		return l, codeOnly(impl.AnsOk)
	case impl.SoAdd:
		return l.afterAdding(s.op.Con)
	case impl.SoPush:
		if l.top == 7 {
			return l, codeOnly(impl.AnsFull)
		}
		l.top++
		return l, codeOnly(impl.AnsOk)
	case impl.SoPop:
		if l.top == 0 {
			return l, codeOnly(impl.AnsForm)
		}
		l.params = slices.DeleteFunc(slices.Clone(l.params), func(x placed[int]) bool { return x.frame == l.top })
		l.cons = slices.DeleteFunc(slices.Clone(l.cons), func(x placed[impl.Con]) bool { return x.frame == l.top })
		l.top--
		return l, codeOnly(impl.AnsOk)
	case impl.SoLe, impl.SoEq:
		return l, l.answer(t, s)
	}
	return l, codeOnly(impl.AnsForm)
}

func (l ledger) afterAdding(c impl.Con) (ledger, impl.Ans) {
	for _, p := range []int{c.U, c.V} {
		if p != -1 && !l.isLive(p) {
			return l, codeOnly(impl.AnsForm)
		}
	}
	if c.Rel < 0 || c.Rel > 2 {
		return l, codeOnly(impl.AnsForm)
	}
	if len(l.cons) == 24 {
		return l, codeOnly(impl.AnsFull)
	}
	if satisfying(withCon(l.allCons(), c)).none() {
		return l, codeOnly(impl.AnsNo)
	}
	l.cons = append(slices.Clone(l.cons), placed[impl.Con]{l.top, c})
	return l, codeOnly(impl.AnsOk)
}

// answer is found by trying all values, from the first one that shows that the
// levels are not related.
func (l ledger) answer(t *testing.T, s step) impl.Ans {
	t.Helper()
	for _, tok := range slices.Concat(s.op.A, s.op.B) {
		if tok.Op == impl.OpParam && !l.isLive(tok.N) {
			return codeOnly(impl.AnsForm)
		}
	}
	r := realmOf(l.allCons())
	if env, ok := r.expectedWitness(t, s.pair); ok {
		return impl.Ans{Code: impl.AnsNo, Env: env}
	}
	if s.op.Kind == impl.SoEq {
		if env, ok := r.expectedWitness(t, pair{s.pair.b, s.pair.a}); ok {
			return impl.Ans{Code: impl.AnsNo, Env: env}
		}
	}
	return codeOnly(impl.AnsYes)
}

// A chooser makes the same choices in every run of the tests.
type chooser uint64

func (c *chooser) below(n int) int {
	*c = *c*6364136223846793005 + 1442695040888963407
	return int(*c>>33) % n
}

// side is mostly what a constraint can relate in the session.
func (c *chooser) side(live []int) int {
	if c.below(12) == 0 {
		return c.below(8) - 2
	}
	if k := c.below(len(live) + 1); k < len(live) {
		return live[k]
	}
	return -1
}

// level is the index of a level that mostly can be asked about.
func (c *chooser) level(live []int) int {
	for c.below(12) > 0 {
		i := c.below(len(underLevels()))
		if !slices.ContainsFunc(impl.LevelParams(underLevels()[i]), func(p int) bool { return !slices.Contains(live, p) }) {
			return i
		}
	}
	return c.below(len(underLevels()))
}

func (c *chooser) question(live []int) step {
	kind := impl.SoLe
	if c.below(2) == 0 {
		kind = impl.SoEq
	}
	p := pair{c.level(live), c.level(live)}
	if c.below(8) == 0 {
		p.b = p.a
	}
	return ask(kind, p)
}

// step is the next one of a script with so many pushes and pops among its steps.
func (c *chooser) step(live []int, pushes, pops int) step {
	k := c.below(12 + pushes + pops)
	switch {
	case k < 2:
		return step{op: newOp(c.below(7) - 1)}
	case k < 7:
		return step{op: addOp(impl.Con{U: c.side(live), Rel: c.below(13) % 4, V: c.side(live)})}
	case k < 12:
		return c.question(live)
	case k < 12+pushes:
		return step{op: pushOp()}
	}
	return step{op: popOp()}
}

// A script is a run of 200 operations, with the session after each of them.
type script struct {
	steps []step
	after []ledger
	told  []impl.Ans
}

func scriptFrom(t *testing.T, seed int) script {
	t.Helper()
	c := chooser(seed * 7919)
	var out script
	var l ledger
	for len(out.steps) < 200 {
		s := c.step(l.live(), 1+seed%3, seed/3%4)
		if n := len(out.steps); n < 5 && seed%2 == 1 {
			s = step{op: newOp(n)}
		} else if n < 2 || seed%4 == 2 && n%29 == 0 {
			s = step{op: pushOp()}
		}
		var ans impl.Ans
		l, ans = l.after(t, s)
		out.steps, out.after, out.told = append(out.steps, s), append(out.after, l), append(out.told, ans)
	}
	return out
}

const scriptCount = 24

var scriptsOnce sync.Once
var allScripts []script

func scripts(t *testing.T) []script {
	t.Helper()
	scriptsOnce.Do(func() {
		for seed := range scriptCount {
			allScripts = append(allScripts, scriptFrom(t, seed))
		}
	})
	return allScripts
}

// fullSession has MaxFrames frames and MaxCons constraints.
func fullSession() impl.Sess {
	s := session(frame([]int{3, 1}, lt(3, 1), le(-1, 3)), frame(nil, le(3, 1)), frame([]int{4}, lt(1, 4)), frame(nil), frame([]int{0}, eq(0, 3)), frame(nil), frame([]int{2}), frame(nil))
	for i := range 7 {
		f := &s.Frames[i+1]
		f.Cons = append(f.Cons, le(3, 1), lt(-1, 1))
	}
	s.Frames[7].Cons = append(s.Frames[7].Cons, eq(2, 4), lt(0, 2), le(4, 2), le(-1, -1), le(0, 0))
	return s
}

// samples are valid sessions of many kinds.
func samples(t *testing.T) []impl.Sess {
	t.Helper()
	out := []impl.Sess{
		session(frame(nil)),
		session(make([]impl.Frame, 8)...),
		session(frame([]int{0, 1, 2, 3, 4})),
		session(frame([]int{4, 2}, lt(4, 2)), frame([]int{0}, lt(2, 0)), frame(nil), frame([]int{3, 1}, lt(0, 1), le(3, 4))),
		session(frame([]int{0, 1}, lt(0, 1)), frame([]int{2}, eq(1, 2))),
		session(frame([]int{1}, le(1, -1)), frame([]int{0}, lt(1, 0)), frame(nil)),
		session(frame(nil), frame([]int{4, 3, 2, 1, 0}, lt(4, 3), lt(3, 2), lt(2, 1), lt(1, 0), lt(-1, 4))),
		session(frame(nil, le(-1, -1), eq(-1, -1)), frame(nil, le(-1, -1))),
		session(frame([]int{0, 1, 2, 3, 4}, fullList()...)),
		session(frame([]int{0, 1, 2, 3, 4}, fullList()[1:]...)),
		session(frame([]int{4, 3, 2, 1, 0}, fullList()[:10]...), frame(nil), frame(nil, fullList()[10:]...)),
		fullSession(),
	}
	for i, x := range scripts(t) {
		for n := i % 20; n < len(x.after); n += 40 {
			out = append(out, x.after[n].session())
		}
	}
	return out
}
