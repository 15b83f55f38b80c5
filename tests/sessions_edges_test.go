package tests

import (
	"math"
	"slices"
	"testing"

	"loop.example/g00744/impl"
)

// run executes operations that must all be answered AnsOk, from SessNew on.
func run(t *testing.T, ops ...impl.SOp) impl.Sess {
	t.Helper()
	s, told := impl.SessRun(ops)
	for i, ans := range told {
		if !sameAnswer(ans, codeOnly(impl.AnsOk)) {
			t.Fatalf("the answer to operation %d of %v is %v", i, ops, ans)
		}
	}
	if len(told) != len(ops) || !impl.SessOk(s) {
		t.Fatalf("SessRun(%v) = %v, %v", ops, s, told)
	}
	return s
}

// isASession checks what a valid session tells.
func isASession(t *testing.T, s impl.Sess, live []int, cons ...impl.Con) {
	t.Helper()
	if !impl.SessOk(s) {
		t.Errorf("SessOk(%v) is false", s)
	}
	if got := impl.SessLive(s); !slices.Equal(got, live) {
		t.Errorf("SessLive(%v) = %v, not %v", s, got, live)
	}
	if got := impl.SessCons(s); !slices.Equal(got, cons) {
		t.Errorf("SessCons(%v) = %v, not %v", s, got, cons)
	}
}

func TestNewSession(t *testing.T) {
	s := impl.SessNew()
	if len(s.Frames) != 1 || len(s.Frames[0].Params) != 0 || len(s.Frames[0].Cons) != 0 {
		t.Error(s)
	}
	isASession(t, s, nil)
}

func TestNumberOfFrames(t *testing.T) {
	notASession(t, impl.Sess{})
	notASession(t, impl.Sess{Frames: []impl.Frame{}})
	for n := 1; n <= 8; n++ {
		s := session(make([]impl.Frame, n)...)
		isASession(t, s, nil)
		s.Frames[n-1] = frame([]int{3}, lt(-1, 3))
		isASession(t, s, []int{3}, lt(-1, 3))
	}
	for _, n := range []int{9, 10, 16, 1000} {
		notASession(t, session(make([]impl.Frame, n)...))
	}
}

func TestFramesAreBottomFirst(t *testing.T) {
	s := session(frame([]int{4, 1}, le(1, 4), lt(1, 4)), frame([]int{0}, eq(0, 1), le(-1, 0)), frame(nil, le(0, 4)), frame([]int{3, 2}, lt(1, 2)))
	isASession(t, s, []int{0, 1, 2, 3, 4}, le(1, 4), lt(1, 4), eq(0, 1), le(-1, 0), le(0, 4), lt(1, 2))
	slices.Reverse(s.Frames)
	notASession(t, s)
}

func TestParametersThatStandTwice(t *testing.T) {
	for p := range impl.MaxParams {
		notASession(t, session(frame([]int{p, p})))
		notASession(t, session(frame(nil), frame([]int{p, p})))
		notASession(t, session(frame([]int{p}), frame([]int{p})))
		notASession(t, session(frame([]int{p}), frame(nil), frame([]int{p})))
		for q := range impl.MaxParams {
			if q == p {
				continue
			}
			notASession(t, session(frame([]int{p, q, p})))
			notASession(t, session(frame([]int{p}), frame([]int{q, p})))
			notASession(t, session(frame([]int{p, q}), frame([]int{p})))
			isASession(t, session(frame([]int{p}), frame([]int{q})), []int{min(p, q), max(p, q)})
		}
	}
	notASession(t, session(frame([]int{0, 1, 2, 3, 4, 0})))
	notASession(t, session(frame([]int{0, 1, 2, 3, 4}), frame([]int{2})))
}

func TestParamsThatAreNoParameters(t *testing.T) {
	for _, p := range badParams() {
		notASession(t, session(frame([]int{p})))
		notASession(t, session(frame([]int{0, p})))
		notASession(t, session(frame([]int{p, 0})))
		notASession(t, session(frame([]int{0}), frame(nil), frame([]int{p})))
		notASession(t, session(frame([]int{p}), frame([]int{0})))
	}
}

func TestConstraintsOfSessionsThatAreNotValid(t *testing.T) {
	all := []int{0, 1, 2, 3, 4}
	for _, c := range badCons() {
		notASession(t, session(frame(all, c)))
		notASession(t, session(frame(all, le(0, 1), c)))
		notASession(t, session(frame(all, c, le(0, 1))))
		notASession(t, session(frame(all), frame(nil, c), frame(nil)))
	}
}

// A constraint may refer to its own frame and to those below it.
func TestFramesToWhichAConstraintRefers(t *testing.T) {
	for _, c := range []impl.Con{le(1, -1), le(-1, 1), lt(-1, 1), eq(-1, 1), le(1, 1), le(1, 0), le(0, 1), lt(0, 1), eq(1, 0)} {
		isASession(t, session(frame([]int{0, 1}, c)), []int{0, 1}, c)
		isASession(t, session(frame([]int{0}), frame([]int{1}, c)), []int{0, 1}, c)
		isASession(t, session(frame([]int{0, 1}), frame(nil), frame(nil, c)), []int{0, 1}, c)
		isASession(t, session(frame([]int{1}), frame([]int{0}), frame(nil, c)), []int{0, 1}, c)
		notASession(t, session(frame([]int{0}, c), frame([]int{1})))
		notASession(t, session(frame(nil, c), frame([]int{0, 1})))
		notASession(t, session(frame(nil), frame([]int{0}, c), frame(nil), frame([]int{1})))
		// Nor may it refer to what is not declared at all.
		notASession(t, session(frame([]int{0}, c)))
		notASession(t, session(frame([]int{0, 2, 3, 4}), frame(nil, c)))
	}
	for _, c := range []impl.Con{le(-1, -1), eq(-1, -1)} {
		isASession(t, session(frame(nil, c), frame(nil), frame([]int{0}, c)), []int{0}, c, c)
	}
	notASession(t, session(frame(nil, lt(-1, -1))))
	notASession(t, session(frame([]int{0}), frame(nil, lt(-1, -1))))
}

// spread distributes constraints over eight frames.
func spread(list []impl.Con) impl.Sess {
	s := session(make([]impl.Frame, 8)...)
	s.Frames[0].Params = []int{0, 1, 2, 3, 4}
	for i, c := range list {
		f := &s.Frames[i*8/len(list)]
		f.Cons = append(f.Cons, c)
	}
	return s
}

func TestMaxConsOverAllFrames(t *testing.T) {
	all := []int{0, 1, 2, 3, 4}
	list := fullList()
	isASession(t, session(frame(all, list...)), all, list...)
	isASession(t, spread(list), all, list...)
	isASession(t, fullSession(), all, impl.SessCons(fullSession())...)
	if len(impl.SessCons(fullSession())) != impl.MaxCons {
		t.Error(len(impl.SessCons(fullSession())))
	}
	more := append(fullList(), le(0, 0))
	notASession(t, session(frame(all, more...)))
	notASession(t, spread(more))
	notASession(t, session(frame(all, more[:12]...), frame(nil, more[12:]...)))
	notASession(t, session(frame(all, make([]impl.Con, 1000)...)))
	notASession(t, session(frame(all, list...), frame(nil, list...)))
}

func TestConstraintsThatAreSatisfiableInEachFrameOnly(t *testing.T) {
	for _, s := range []impl.Sess{
		session(frame([]int{0, 1}, lt(0, 1)), frame(nil, le(1, 0))),
		session(frame([]int{0, 1}, lt(0, 1)), frame(nil), frame([]int{2}, eq(0, 2)), frame(nil), frame(nil, eq(2, 1))),
		session(frame([]int{0}, lt(-1, 0)), frame(nil), frame([]int{1}, le(0, 1)), frame([]int{2}, le(1, 2)), frame(nil, le(2, -1))),
		session(frame([]int{3}), frame(nil, le(3, -1)), frame(nil, lt(-1, 3))),
	} {
		for i := range s.Frames {
			alone := copiedSession(s)
			for k := range alone.Frames {
				if k != i {
					alone.Frames[k].Cons = nil
				}
			}
			if !impl.SessOk(alone) {
				t.Errorf("SessOk(%v) is false", alone)
			}
		}
		notASession(t, s)
		if below := session(s.Frames[:len(s.Frames)-1]...); !impl.SessOk(below) {
			t.Errorf("SessOk(%v) is false", below)
		}
	}
	// Nor within one frame.
	notASession(t, session(frame([]int{0, 1}, lt(0, 1), le(1, 0))))
	notASession(t, session(frame([]int{0}, lt(0, 0))))
}

func TestDeclaring(t *testing.T) {
	s := impl.SessNew()
	var params []int
	for _, p := range []int{3, 0, 4, 1, 2} {
		did(t, s, newOp(p), codeOnly(impl.AnsOk), session(frame(append(slices.Clone(params), p))))
		s, _ = impl.SessDo(s, newOp(p))
		params = append(params, p)
		for _, live := range params {
			refusedOp(t, s, newOp(live), impl.AnsForm)
		}
		for _, bad := range badParams() {
			refusedOp(t, s, newOp(bad), impl.AnsForm)
		}
	}
	isASession(t, s, []int{0, 1, 2, 3, 4})
	// The top frame is the one that changes, and a live parameter of any frame is refused.
	three := session(frame([]int{2}, lt(-1, 2)), frame([]int{0}, le(0, 2)), frame(nil))
	did(t, three, newOp(1), codeOnly(impl.AnsOk), session(three.Frames[0], three.Frames[1], frame([]int{1})))
	for _, p := range append(badParams(), 0, 2) {
		refusedOp(t, three, newOp(p), impl.AnsForm)
	}
}

func TestPushingAndPopping(t *testing.T) {
	s := session(frame([]int{1}, lt(-1, 1)))
	for n := 1; n < 8; n++ {
		next := session(append(slices.Clone(s.Frames), impl.Frame{})...)
		did(t, s, pushOp(), codeOnly(impl.AnsOk), next)
		did(t, next, popOp(), codeOnly(impl.AnsOk), s)
		s = next
	}
	refusedOp(t, s, pushOp(), impl.AnsFull)
	full := fullSession()
	refusedOp(t, full, pushOp(), impl.AnsFull)
	did(t, full, popOp(), codeOnly(impl.AnsOk), session(full.Frames[:7]...))
	for len(s.Frames) > 1 {
		s, _ = impl.SessDo(s, popOp())
	}
	for _, only := range []impl.Sess{s, impl.SessNew(), session(frame([]int{0, 1}, lt(0, 1)))} {
		refusedOp(t, only, popOp(), impl.AnsForm)
	}
}

func TestDeclaringAgainWhatWasPopped(t *testing.T) {
	// The popped constraint on it, and what followed from it for others, is gone.
	s := run(t, newOp(0), pushOp(), newOp(1), addOp(lt(0, 1)), addOp(lt(-1, 0)), popOp())
	isASession(t, s, []int{0})
	refusedOp(t, s, addOp(le(1, 0)), impl.AnsForm)
	refusedOp(t, s, leOp(readLevel(t, "u0"), readLevel(t, "u1")), impl.AnsForm)
	s, _ = impl.SessDo(s, newOp(1))
	isASession(t, s, []int{0, 1})
	did(t, s, leOp(readLevel(t, "u0"), readLevel(t, "u1")), impl.Ans{Code: impl.AnsNo, Env: []int{200, 0, 0, 0, 0}}, s)
	did(t, s, addOp(lt(1, 0)), codeOnly(impl.AnsOk), session(frame([]int{0, 1}, lt(1, 0))))
	// It can be declared again in each of several pushes, also further up.
	s = run(t, pushOp(), newOp(2), addOp(lt(-1, 2)), popOp(), pushOp(), pushOp(), newOp(2), addOp(le(2, -1)), popOp(), newOp(2), addOp(eq(2, 2)), pushOp())
	isASession(t, s, []int{2}, eq(2, 2))
	if !sameSession(s, session(frame(nil), frame([]int{2}, eq(2, 2)), frame(nil))) {
		t.Error(s)
	}
	refusedOp(t, s, newOp(2), impl.AnsForm)
	// What a lower frame declares stays, and its constraints with it.
	s = run(t, newOp(3), addOp(lt(-1, 3)), pushOp(), newOp(4), addOp(lt(3, 4)), pushOp(), popOp(), popOp())
	isASession(t, s, []int{3}, lt(-1, 3))
	refusedOp(t, s, newOp(3), impl.AnsForm)
	did(t, s, newOp(4), codeOnly(impl.AnsOk), session(frame([]int{3, 4}, lt(-1, 3))))
}

func TestAddingWhatIsNoConstraint(t *testing.T) {
	for _, s := range []impl.Sess{impl.SessNew(), session(frame([]int{0, 1, 2, 3, 4})), spread(fullList()), session(frame([]int{0, 1}), frame(nil, lt(0, 1)))} {
		for _, c := range badCons() {
			refusedOp(t, s, addOp(c), impl.AnsForm)
		}
	}
}

func TestAddingOfParametersThatAreNotLive(t *testing.T) {
	for p := range impl.MaxParams {
		var others []int
		for q := range impl.MaxParams {
			if q != p {
				others = append(others, q)
			}
		}
		for _, s := range []impl.Sess{impl.SessNew(), session(frame(others)), session(frame(others[:2]), frame(nil), frame(others[2:]))} {
			for _, q := range sides() {
				for _, rel := range []int{impl.RelLe, impl.RelLt, impl.RelEq} {
					refusedOp(t, s, addOp(impl.Con{U: p, Rel: rel, V: q}), impl.AnsForm)
					refusedOp(t, s, addOp(impl.Con{U: q, Rel: rel, V: p}), impl.AnsForm)
				}
			}
		}
	}
	// Without any parameter there is still the number 0.
	did(t, impl.SessNew(), addOp(le(-1, -1)), codeOnly(impl.AnsOk), session(frame(nil, le(-1, -1))))
	refusedOp(t, impl.SessNew(), addOp(lt(-1, -1)), impl.AnsNo)
}

func TestAddingToTheTopFrame(t *testing.T) {
	s := session(frame([]int{0}, le(0, 0)), frame([]int{1}, le(0, 1)), frame([]int{2}))
	for _, c := range []impl.Con{lt(0, 2), le(1, -1), eq(0, 1), le(0, 0)} {
		did(t, s, addOp(c), codeOnly(impl.AnsOk), session(s.Frames[0], s.Frames[1], frame([]int{2}, c)))
	}
	// A constraint is appended even if it is there already.
	twice := session(frame([]int{0, 1}, lt(0, 1)))
	did(t, twice, addOp(lt(0, 1)), codeOnly(impl.AnsOk), session(frame([]int{0, 1}, lt(0, 1), lt(0, 1))))
}

func TestAddingOneTooMany(t *testing.T) {
	full, all := spread(fullList()), []int{0, 1, 2, 3, 4}
	for _, s := range []impl.Sess{full, fullSession(), session(frame(all, fullList()...)), session(frame(all, fullList()...), frame(nil))} {
		for _, c := range allCons() {
			refusedOp(t, s, addOp(c), impl.AnsFull)
		}
	}
	below := session(frame(all, fullList()[:12]...), frame(nil, fullList()[12:23]...))
	for _, c := range allCons() {
		if satisfying(withCon(fullList()[:23], c)).none() {
			refusedOp(t, below, addOp(c), impl.AnsNo)
			continue
		}
		did(t, below, addOp(c), codeOnly(impl.AnsOk), session(below.Frames[0], frame(nil, withCon(fullList()[12:23], c)...)))
	}
	// A pop makes room.
	s, _ := impl.SessDo(full, popOp())
	if _, told := impl.SessDo(s, addOp(le(0, 0))); told.Code != impl.AnsOk {
		t.Error(told)
	}
}

func TestAddingWhatContradictsTheOthers(t *testing.T) {
	s := session(frame([]int{0, 1}, lt(0, 1)), frame([]int{2}, eq(1, 2)), frame([]int{3}))
	for _, c := range []impl.Con{le(1, 0), lt(1, 0), eq(0, 1), le(2, 0), le(2, -1), eq(1, -1), lt(3, 3), lt(3, -1), lt(0, 0), eq(2, 0)} {
		refusedOp(t, s, addOp(c), impl.AnsNo)
	}
	// Nothing of it is left.
	next, _ := impl.SessDo(s, addOp(le(2, 0)))
	did(t, next, addOp(lt(2, 3)), codeOnly(impl.AnsOk), session(s.Frames[0], s.Frames[1], frame([]int{3}, lt(2, 3))))
	// With the constraint popped that it contradicts, it is accepted.
	s = run(t, newOp(0), newOp(1), pushOp(), addOp(lt(0, 1)), popOp(), addOp(le(1, 0)))
	isASession(t, s, []int{0, 1}, le(1, 0))
}

// The first answer that applies is given, also where others apply as well.
func TestOrderOfTheAnswersToAnAddedConstraint(t *testing.T) {
	full := session(frame([]int{0, 1, 2, 3}, slices.Repeat([]impl.Con{lt(0, 1)}, impl.MaxCons)...))
	for _, x := range []struct {
		c    impl.Con
		code int
	}{
		{impl.Con{U: 0, Rel: 3, V: 1}, impl.AnsForm}, {impl.Con{U: 5, Rel: impl.RelLt, V: 5}, impl.AnsForm}, {impl.Con{U: 1, Rel: -1, V: 0}, impl.AnsForm},
		{lt(4, 4), impl.AnsForm}, {le(4, 0), impl.AnsForm}, {le(0, 4), impl.AnsForm}, {eq(-1, 4), impl.AnsForm}, {impl.Con{U: 4, Rel: 3, V: 4}, impl.AnsForm},
		{le(1, 0), impl.AnsFull}, {lt(-1, -1), impl.AnsFull}, {lt(0, 1), impl.AnsFull}, {le(2, 3), impl.AnsFull},
	} {
		refusedOp(t, full, addOp(x.c), x.code)
	}
	room := session(frame(full.Frames[0].Params, full.Frames[0].Cons[1:]...))
	refusedOp(t, room, addOp(le(1, 0)), impl.AnsNo)
	refusedOp(t, room, addOp(lt(4, 4)), impl.AnsForm)
	refusedOp(t, room, addOp(impl.Con{U: 1, Rel: 3}), impl.AnsForm)
}

func TestQuestionsAboutWhatIsNoLevel(t *testing.T) {
	good := readLevels(t, "0", "u0", "u0 s u1 imax")
	for _, s := range []impl.Sess{session(frame([]int{0, 1, 2, 3, 4})), session(frame([]int{0}, le(0, -1)), frame([]int{1}))} {
		for _, bad := range badLevels() {
			for _, l := range good {
				for _, o := range []impl.SOp{leOp(bad, l), leOp(l, bad), eqOp(bad, l), eqOp(l, bad), leOp(bad, bad), eqOp(bad, bad)} {
					refusedOp(t, s, o, impl.AnsForm)
				}
			}
		}
	}
}

func TestQuestionsAboutParametersThatAreNotLive(t *testing.T) {
	texts := []string{"u3", "u3 s", "u0 u3 max", "u3 u0 imax", "u3 0 imax", "0 u3 imax", "u0 u1 max u3 max", "u3 u3 imax s"}
	good := readLevels(t, "0", "u0", "u1 s", "u0 s u1 imax")
	for _, s := range []impl.Sess{session(frame([]int{0, 1, 2, 4})), session(frame([]int{0}), frame([]int{1}, le(0, 1))), run(t, newOp(0), newOp(1), pushOp(), newOp(3), addOp(le(3, -1)), popOp())} {
		for _, dead := range readLevels(t, texts...) {
			for _, l := range good {
				for _, o := range []impl.SOp{leOp(dead, l), leOp(l, dead), eqOp(dead, l), eqOp(l, dead), leOp(dead, dead), eqOp(dead, dead)} {
					refusedOp(t, s, o, impl.AnsForm)
				}
			}
		}
	}
	for _, s := range []impl.Sess{session(frame([]int{0, 1, 3})), session(frame([]int{0, 1}), frame([]int{3}))} {
		for _, l := range readLevels(t, texts...) {
			did(t, s, leOp(l, l), codeOnly(impl.AnsYes), s)
			did(t, s, eqOp(l, l), codeOnly(impl.AnsYes), s)
		}
	}
}

func TestQuestionsWithoutParameters(t *testing.T) {
	s, none := impl.SessNew(), impl.Ans{Code: impl.AnsNo, Env: zeroEnv()}
	zero, one, other := readLevel(t, "0"), readLevel(t, "0 s"), readLevel(t, "0 s 0 s imax")
	did(t, s, leOp(zero, one), codeOnly(impl.AnsYes), s)
	did(t, s, leOp(one, zero), none, s)
	did(t, s, eqOp(zero, one), none, s)
	did(t, s, eqOp(one, zero), none, s)
	did(t, s, eqOp(one, other), codeOnly(impl.AnsYes), s)
	refusedOp(t, s, leOp(zero, readLevel(t, "u0")), impl.AnsForm)
}

// All constraints count, whatever frames they stand in.
func TestQuestionsUnderTheConstraintsOfAllFrames(t *testing.T) {
	s := session(frame([]int{0, 1}, lt(0, 1)), frame([]int{2}, le(1, 2)), frame([]int{3}), frame(nil, lt(2, 3)))
	low, high := readLevel(t, "u0 s s"), readLevel(t, "u3")
	did(t, s, leOp(low, high), codeOnly(impl.AnsYes), s)
	for i := range s.Frames {
		less := copiedSession(s)
		less.Frames[i].Cons = nil
		did(t, less, leOp(low, high), yesOrNo([][]int{{0, 0, 0, 1, 0}, {0, 1, 0, 1, 0}, nil, {0, 1, 1, 0, 0}}[i]), less)
	}
	did(t, s, leOp(readLevel(t, "u0 s s s"), high), impl.Ans{Code: impl.AnsNo, Env: []int{0, 1, 1, 2, 0}}, s)
	did(t, s, leOp(high, low), impl.Ans{Code: impl.AnsNo, Env: []int{0, 1, 1, 200, 0}}, s)
}

func TestEqualityThatFailsInOneDirection(t *testing.T) {
	s := session(frame([]int{0, 1}), frame(nil, lt(0, 1)))
	for _, x := range []struct {
		a, b string
		le   []int
		eq   []int
	}{
		// In the second direction only.
		{"u0", "u1", nil, []int{0, 200, 0, 0, 0}},
		{"u0 s s u1 max", "u1 s", nil, []int{0, 200, 0, 0, 0}},
		{"0 s", "u1", nil, []int{0, 200, 0, 0, 0}},
		{"u0 s", "u0 s s", nil, []int{0, 1, 0, 0, 0}},
		// In the first one only.
		{"u1", "u0", []int{0, 200, 0, 0, 0}, []int{0, 200, 0, 0, 0}},
		{"u0 s s", "u0 s", []int{0, 1, 0, 0, 0}, []int{0, 1, 0, 0, 0}},
		// In both of them: the witness is the one of the first.
		{"u0 s s", "u1", []int{0, 1, 0, 0, 0}, []int{0, 1, 0, 0, 0}},
		{"u1", "u0 s s", []int{0, 200, 0, 0, 0}, []int{0, 200, 0, 0, 0}},
		// In none.
		{"u0 u1 max", "u1", nil, nil},
		{"u1", "u0 u1 imax", nil, nil},
	} {
		a, b := readLevel(t, x.a), readLevel(t, x.b)
		did(t, s, leOp(a, b), yesOrNo(x.le), s)
		did(t, s, eqOp(a, b), yesOrNo(x.eq), s)
	}
}

func yesOrNo(env []int) impl.Ans {
	if env == nil {
		return codeOnly(impl.AnsYes)
	}
	return impl.Ans{Code: impl.AnsNo, Env: env}
}

func badKinds() []int {
	return []int{0, 7, 8, -1, -2, -6, 63, 64, 65, 257, 1 << 32, 1<<32 + 1, math.MaxInt, math.MinInt, math.MinInt + 1}
}

func TestKindsThatAreNoneOfTheSix(t *testing.T) {
	l := readLevel(t, "0")
	for _, kind := range badKinds() {
		for _, o := range []impl.SOp{{Kind: kind}, {Kind: kind, P: 3, Con: le(0, 0), A: l, B: l}, {Kind: kind, P: -1, Con: lt(5, 5)}} {
			for _, s := range []impl.Sess{impl.SessNew(), session(frame([]int{0}, le(0, 0)), frame(nil)), fullSession()} {
				refusedOp(t, s, o, impl.AnsForm)
			}
			did(t, impl.Sess{}, o, codeOnly(impl.AnsForm), impl.Sess{})
		}
	}
}

func TestFieldsThatAKindDoesNotUse(t *testing.T) {
	levels := append(badLevels(), readLevels(t, "0", "u4 s")...)
	sessions := []impl.Sess{impl.SessNew(), session(frame([]int{0, 1}, lt(0, 1)), frame([]int{2})), fullSession()}
	plain := []impl.SOp{newOp(3), newOp(0), newOp(5), addOp(le(0, 1)), addOp(le(1, 0)), addOp(le(4, 5)), pushOp(), popOp(), leOp(readLevel(t, "u0"), readLevel(t, "u1")), eqOp(readLevel(t, "0"), readLevel(t, "0 s")), leOp(nil, nil)}
	for _, s := range sessions {
		for _, o := range plain {
			next, told := impl.SessDo(s, o)
			for i, l := range levels {
				x := o
				if o.Kind != impl.SoNew {
					x.P = []int{0, 3, -1, 5, math.MinInt}[i%5]
				}
				if o.Kind != impl.SoAdd {
					x.Con = []impl.Con{le(0, 1), lt(0, 0), {U: 7, Rel: -4, V: math.MaxInt}}[i%3]
				}
				if o.Kind != impl.SoLe && o.Kind != impl.SoEq {
					x.A, x.B = l, levels[(i*7+3)%len(levels)]
				}
				did(t, s, x, told, next)
			}
		}
	}
}

func TestOperationsOnSessionsThatAreNotValid(t *testing.T) {
	all := []int{0, 1, 2, 3, 4}
	for _, s := range []impl.Sess{
		{}, session(make([]impl.Frame, 9)...), session(frame([]int{0, 0})), session(frame(all, lt(0, 0))), session(frame(nil, le(0, 0))), session(frame(all), frame(nil, impl.Con{Rel: 3})),
		session(frame([]int{0}), frame([]int{5}), frame(nil)), session(frame(all, fullList()...), frame(nil, le(0, 0))),
	} {
		notASession(t, s)
		for _, kind := range append(badKinds(), 1, 2, 3, 4, 5, 6) {
			did(t, s, impl.SOp{Kind: kind, P: 1, A: readLevel(t, "0"), B: readLevel(t, "0")}, codeOnly(impl.AnsForm), impl.Sess{})
		}
	}
}

func TestRunsOfNoOperationAndOfTooMany(t *testing.T) {
	for _, none := range [][]impl.SOp{nil, {}} {
		if s, told := impl.SessRun(none); !sameSession(s, impl.SessNew()) || len(told) != 0 {
			t.Error(s, told)
		}
	}
	ops := slices.Repeat([]impl.SOp{newOp(0), addOp(lt(-1, 0)), pushOp(), {Kind: 9}, addOp(le(0, -1))}, 60)
	s, told := impl.SessRun(ops[:200])
	want := session(frame([]int{0}, lt(-1, 0)))
	for i := range 7 {
		want.Frames = append(want.Frames, frame(nil, lt(-1, 0)))
		if i == 6 {
			want.Frames[7].Cons = slices.Repeat([]impl.Con{lt(-1, 0)}, 17)
		}
	}
	if len(told) != 200 || !sameSession(s, want) || told[199].Code != impl.AnsFull || told[0].Code != impl.AnsOk || told[5].Code != impl.AnsForm {
		t.Error(s, told)
	}
	for _, n := range []int{201, 202, 300} {
		if s, told := impl.SessRun(ops[:n]); len(s.Frames) != 0 || len(told) != 0 {
			t.Errorf("SessRun of %d operations: %v, %v", n, s, told)
		}
	}
	for _, n := range []int{201, 1000, 100000} {
		if s, told := impl.SessRun(make([]impl.SOp, n)); len(s.Frames) != 0 || len(told) != 0 {
			t.Errorf("SessRun of %d operations: %v, %v", n, s, told)
		}
	}
	if s, told := impl.SessRun(make([]impl.SOp, 200)); !sameSession(s, impl.SessNew()) || len(told) != 200 || told[0].Code != impl.AnsForm || told[199].Code != impl.AnsForm {
		t.Error(s, told)
	}
}
