package tests

import (
	"fmt"
	"math"
	"slices"
	"testing"

	"loop.example/g00744/impl"
)

// spareSession is the session with room behind each of its slices, in which
// stands what would make it another one.
func spareSession(s impl.Sess, behindParam int, behindCon impl.Con) impl.Sess {
	var out impl.Sess
	for _, f := range s.Frames {
		out.Frames = append(out.Frames, frame(spare(f.Params, behindParam), spare(f.Cons, behindCon)...))
	}
	out.Frames = spare(out.Frames, frame([]int{behindParam}, behindCon))
	return out
}

// wholeSession tells everything in the memory of the session.
func wholeSession(s impl.Sess) string {
	said := ""
	for _, f := range whole(s.Frames) {
		said += fmt.Sprint(len(f.Params), whole(f.Params), len(f.Cons), whole(f.Cons))
	}
	return said
}

func scribbleSession(s impl.Sess) {
	for _, f := range s.Frames {
		scribble(f.Params, -7)
		scribble(f.Cons, scribbleCon)
	}
	scribble(s.Frames, frame([]int{-7}, scribbleCon))
}

// askSession calls every function of chapter 7 that takes a session, overwrites
// what they return, and tells what it was.
func askSession(s impl.Sess, o impl.SOp) string {
	live, cons := impl.SessLive(s), impl.SessCons(s)
	next, told := impl.SessDo(s, o)
	said := fmt.Sprint(impl.SessOk(s), live, cons, next, told)
	scribble(live, -7)
	scribble(cons, scribbleCon)
	scribbleSession(next)
	scribble(told.Env, -7)
	return said
}

// askRun does the same for a run.
func askRun(ops []impl.SOp) string {
	s, told := impl.SessRun(ops)
	said := fmt.Sprint(s, told)
	scribbleSession(s)
	for _, ans := range told {
		scribble(ans.Env, -7)
	}
	scribble(told, impl.Ans{Code: 77})
	return said
}

// memoryOps have every kind, and every answer somewhere among memorySessions.
func memoryOps(t *testing.T) []impl.SOp {
	t.Helper()
	u0, u1, up := readLevel(t, "u0"), readLevel(t, "u1"), readLevel(t, "u0 s")
	return []impl.SOp{
		newOp(0), newOp(3), newOp(5), addOp(le(0, 1)), addOp(lt(1, 0)), addOp(lt(0, 5)), addOp(eq(-1, -1)), pushOp(), popOp(),
		leOp(u0, u1), leOp(u1, up), eqOp(u0, u1), eqOp(u1, u1), eqOp(u0, up), leOp(u0, nil), {}, {Kind: 7},
	}
}

func memorySessions() []impl.Sess {
	return []impl.Sess{
		impl.SessNew(),
		session(frame([]int{0, 1}, lt(0, 1))),
		session(frame([]int{1, 0}, le(0, 1), le(1, 0)), frame(nil), frame([]int{4}, lt(0, 4))),
		session(frame([]int{0}), frame([]int{1, 2}, lt(0, 1), lt(1, 2))),
		fullSession(),
		session(frame([]int{0}, lt(0, 0))),
		session(frame([]int{0, 1, 0})),
		{},
	}
}

func TestSessionsModifyAndShareNothing(t *testing.T) {
	for _, plain := range memorySessions() {
		for _, o := range memoryOps(t) {
			s := spareSession(plain, 3, le(0, 0))
			o.A, o.B = spare(o.A, behindTok), spare(o.B, behindTok)
			kept, keptA, keptB := wholeSession(s), whole(o.A), whole(o.B)
			askSession(s, o)
			if wholeSession(s) != kept {
				t.Errorf("%v was modified by %v, or is shared with a result: %v", plain, o, s)
			}
			if !slices.Equal(whole(o.A), keptA) || !slices.Equal(whole(o.B), keptB) {
				t.Errorf("a level of %v was modified, or is shared with a result", o)
			}
		}
	}
}

func TestRunsModifyAndShareNothing(t *testing.T) {
	var plain []impl.SOp
	for range 3 {
		plain = append(plain, memoryOps(t)...)
	}
	plain = append([]impl.SOp{newOp(1)}, plain...)
	var ops []impl.SOp
	for _, o := range plain {
		o.A, o.B = spare(o.A, behindTok), spare(o.B, behindTok)
		ops = append(ops, o)
	}
	ops = spare(ops, popOp())
	tell := func() string {
		said := fmt.Sprint(whole(ops))
		for _, o := range ops {
			said += fmt.Sprint(whole(o.A), whole(o.B))
		}
		return said
	}
	kept, want := tell(), askRun(plain)
	if said := askRun(ops); said != want {
		t.Errorf("%s, not %s", said, want)
	}
	if tell() != kept {
		t.Error("an operation was modified, or is shared with a result")
	}
	if said := askRun(ops); said != want {
		t.Errorf("%s, and %s before", said, want)
	}
}

func TestSessionsReadNothingBehindTheLength(t *testing.T) {
	for _, plain := range memorySessions() {
		for _, o := range memoryOps(t) {
			want := askSession(plain, o)
			for i, behind := range []impl.Con{le(0, 0), lt(0, 0), lt(1, 0), lt(3, 4), scribbleCon} {
				x := o
				x.A, x.B = spare(o.A, behindTok), spare(o.B, scribbleTok)
				if said := askSession(spareSession(plain, []int{0, 3, 5, -1, 77}[i], behind), x); said != want {
					t.Errorf("%v with %v behind it: %s, not %s", plain, behind, said, want)
				}
			}
		}
	}
	frames := make([]impl.Frame, 20)
	if !impl.SessOk(session(frames[:8]...)) || impl.SessOk(session(frames[:0]...)) || impl.SessOk(session(frames[:9]...)) {
		t.Error("the capacity of the frames is counted")
	}
	ops := slices.Repeat([]impl.SOp{newOp(0)}, 300)
	if _, told := impl.SessRun(ops[:200]); len(told) != 200 {
		t.Error("the capacity of a run is counted")
	}
}

// slicesOf has a function that overwrites it, and one that tells what is in it,
// for each slice of the session.
func slicesOf(s impl.Sess) (overwrite []func(), tell []func() string) {
	for i := range s.Frames {
		f := s.Frames[i]
		overwrite = append(overwrite, func() { scribble(f.Params, -7) }, func() { scribble(f.Cons, scribbleCon) })
		tell = append(tell, func() string { return fmt.Sprint(f.Params) }, func() string { return fmt.Sprint(f.Cons) })
	}
	return overwrite, tell
}

// Each slice of a result is overwritten in turn, with the room behind it, and
// no other one may change.
func TestSlicesOfOneSessionShareNothing(t *testing.T) {
	ops := append(memoryOps(t), newOp(2), newOp(4), addOp(le(0, 0)), addOp(lt(0, 1)))
	for _, s := range append(memorySessions(), samples(t)[:12]...) {
		for _, o := range ops {
			want, _ := impl.SessDo(s, o)
			_, wanted := slicesOf(want)
			for k := range wanted {
				next, _ := impl.SessDo(s, o)
				overwrite, tell := slicesOf(next)
				overwrite[k]()
				for m := range tell {
					if m != k && tell[m]() != wanted[m]() {
						t.Fatalf("slices %d and %d of the session after %v on %v are shared", k, m, o, s)
					}
				}
			}
		}
	}
}

// An operation that changes one frame, or none, still returns all of them anew.
func TestTwoSessionsShareNothing(t *testing.T) {
	for _, s := range memorySessions() {
		for _, o := range memoryOps(t) {
			kept := fmt.Sprint(s)
			first, _ := impl.SessDo(s, o)
			second, _ := impl.SessDo(first, pushOp())
			third, _ := impl.SessDo(first, popOp())
			again, _ := impl.SessDo(s, o)
			want := fmt.Sprint(first, second, third, again)
			for i, x := range []*impl.Sess{&first, &second, &third, &again} {
				mine := copiedSession(*x)
				scribbleSession(*x)
				*x = mine
				if got := fmt.Sprint(first, second, third, again); got != want || fmt.Sprint(s) != kept {
					t.Fatalf("result %d is shared with another session after %v on %v: %s, not %s", i, o, s, got, want)
				}
			}
		}
	}
	one, other := impl.SessNew(), impl.SessNew()
	scribbleSession(one)
	if !sameSession(other, session(frame(nil))) || !sameSession(impl.SessNew(), other) {
		t.Error("SessNew", other)
	}
}

func TestTwoAnswersShareNothing(t *testing.T) {
	s := session(frame([]int{0, 1}, lt(0, 1)))
	o := leOp(readLevel(t, "u1"), readLevel(t, "u0 s s"))
	_, one := impl.SessDo(s, o)
	_, other := impl.SessDo(s, o)
	scribble(one.Env, -7)
	want := impl.Ans{Code: impl.AnsNo, Env: []int{0, 200, 0, 0, 0}}
	if _, again := impl.SessDo(s, o); !sameAnswer(other, want) || !sameAnswer(again, want) {
		t.Error(other, again)
	}
	ops := []impl.SOp{newOp(0), newOp(1), addOp(lt(0, 1)), o, o, eqOp(o.A, o.B)}
	for i := 3; i < 6; i++ {
		_, told := impl.SessRun(ops)
		scribble(told[i].Env, -7)
		for k := 3; k < 6; k++ {
			if k != i && !sameAnswer(told[k], want) {
				t.Errorf("answers %d and %d are shared", i, k)
			}
		}
	}
	live, cons := impl.SessLive(s), impl.SessCons(s)
	otherLive, otherCons := impl.SessLive(s), impl.SessCons(s)
	scribble(live, -7)
	scribble(cons, scribbleCon)
	if !slices.Equal(otherLive, []int{0, 1}) || !slices.Equal(otherCons, []impl.Con{lt(0, 1)}) {
		t.Error(otherLive, otherCons)
	}
	isASession(t, s, []int{0, 1}, lt(0, 1))
}

// The same memory holds another session each time, so that anything kept for
// the one before would show.
func TestSessionsKeepNoState(t *testing.T) {
	s := session(frame([]int{0, 1}, lt(0, 1)), frame([]int{2}, le(1, 2)))
	for range 2 {
		for _, u := range sides() {
			for _, v := range sides() {
				for p := range impl.MaxParams {
					s.Frames[0].Cons[0], s.Frames[1].Params[0] = impl.Con{U: u, Rel: p % 3, V: v}, p
					want := isSession(s)
					if impl.SessOk(s) != want || len(impl.SessCons(s)) > 0 != want {
						t.Fatalf("SessOk(%v) = %v", s, !want)
					}
					next, told := impl.SessDo(s, newOp(4))
					if accepted := want && p != 4; (told.Code == impl.AnsOk) != accepted || isSession(next) != want {
						t.Fatalf("SessDo(%v, new 4) = %v, %v", s, next, told)
					}
					askSession(impl.Sess{}, newOp(4))
				}
			}
		}
	}
}

func TestSessionsDoNotDependOnTheOrderOfCalls(t *testing.T) {
	type call struct {
		s impl.Sess
		o impl.SOp
	}
	var calls []call
	for i, s := range append(samples(t), memorySessions()...) {
		for k, o := range memoryOps(t) {
			if (i+k)%3 == 0 {
				calls = append(calls, call{s, o})
			}
		}
	}
	var forward []string
	for _, c := range calls {
		forward = append(forward, askSession(c.s, c.o))
	}
	for i := len(calls) - 1; i >= 0; i-- {
		if said := askSession(calls[i].s, calls[i].o); said != forward[i] {
			t.Fatalf("%s for %v, and %s before", said, calls[i], forward[i])
		}
	}
	var runs []string
	for _, x := range scripts(t)[:6] {
		runs = append(runs, askRun(opsOf(x.steps)))
	}
	for i := len(runs) - 1; i >= 0; i-- {
		if said := askRun(opsOf(scripts(t)[i].steps)); said != runs[i] {
			t.Fatalf("%s for script %d, and %s before", said, i, runs[i])
		}
	}
}

func TestNoOperationPanics(t *testing.T) {
	numbers := []int{math.MinInt, -8, -2, -1, 0, 1, 4, 5, 8, 64, math.MaxInt}
	all := []int{0, 1, 2, 3, 4}
	sessions := append(memorySessions(), session(make([]impl.Frame, 100000)...), session(frame(make([]int, 100000))), session(frame(all, make([]impl.Con, 100000)...)),
		session(frame(all, fullList()...), frame(nil, make([]impl.Con, 100000)...)), session(frame(all)), session(impl.Frame{Params: []int{}, Cons: []impl.Con{}}))
	ops := memoryOps(t)
	for _, x := range numbers {
		for _, y := range numbers {
			ops = append(ops, newOp(x), addOp(impl.Con{U: x, Rel: impl.RelEq, V: y}), addOp(impl.Con{U: 0, Rel: x, V: y}), impl.SOp{Kind: x, P: y})
			sessions = append(sessions, session(frame([]int{x, y})), session(frame(all, impl.Con{U: x, Rel: 1, V: y})), session(frame(all, impl.Con{Rel: x, V: y})))
		}
	}
	for _, l := range append(badLevels(), make([]impl.Tok, 100000), tower(impl.MaxLevel), []impl.Tok{{Op: math.MaxInt, N: math.MinInt}}) {
		ops = append(ops, leOp(l, readLevel(t, "u0")), eqOp(readLevel(t, "u1"), l), leOp(l, l))
	}
	for i, s := range sessions {
		impl.SessLive(s)
		impl.SessCons(s)
		for k, o := range ops {
			if i < 16 || (i+k)%7 == 0 {
				impl.SessDo(s, o)
			}
		}
	}
	for start := range ops {
		impl.SessRun(ops[start:min(start+200, len(ops))])
	}
	impl.SessRun(make([]impl.SOp, 1000000))
}
