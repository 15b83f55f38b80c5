package tests

import (
	"fmt"
	"slices"
	"testing"

	"loop.example/g00744/impl"
)

// checkSession compares everything that is told of a session with a ledger.
func checkSession(t *testing.T, s impl.Sess, l ledger) {
	t.Helper()
	if !sameSession(s, l.session()) {
		t.Fatalf("the session is %v, not %v", s, l.session())
	}
	if !impl.SessOk(s) || !isSession(s) {
		t.Fatalf("the session %v is not valid", s)
	}
	if live := impl.SessLive(s); !slices.Equal(live, l.live()) {
		t.Fatalf("SessLive(%v) = %v, not %v", s, live, l.live())
	}
	if cons := impl.SessCons(s); !slices.Equal(cons, l.allCons()) {
		t.Fatalf("SessCons(%v) = %v, not %v", s, cons, l.allCons())
	}
}

// checkStep executes a step and returns the session and the ledger after it.
func checkStep(t *testing.T, s impl.Sess, l ledger, x step) (impl.Sess, ledger) {
	t.Helper()
	before := copiedSession(s)
	next, told := impl.SessDo(s, x.op)
	after, ans := l.after(t, x)
	if !sameAnswer(told, ans) {
		t.Fatalf("SessDo(%v, %v) answers %v, not %v", s, x.op, told, ans)
	}
	if told.Code != impl.AnsOk && !sameSession(next, before) {
		t.Fatalf("SessDo(%v, %v) answers %v and changes the session to %v", before, x.op, told, next)
	}
	checkSession(t, next, after)
	return next, after
}

// Every run of a few operations, whatever their answers.
func TestPromise9EveryShortRun(t *testing.T) {
	alphabet := stepsOf(newOp(0), newOp(1), addOp(lt(0, 1)), addOp(le(1, 0)), addOp(lt(-1, 0)), addOp(eq(0, -1)), pushOp(), popOp())
	runs := 0
	var explore func(s impl.Sess, l ledger, length int)
	explore = func(s impl.Sess, l ledger, length int) {
		runs++
		if length == 0 {
			return
		}
		for _, x := range alphabet {
			next, after := checkStep(t, s, l, x)
			explore(next, after, length-1)
		}
	}
	explore(impl.SessNew(), ledger{}, 5)
	if runs != 37449 {
		t.Error(runs)
	}
}

type kindAndCode struct {
	kind, code int
}

func TestPromise9LongRuns(t *testing.T) {
	told := map[kindAndCode]int{}
	for _, x := range scripts(t) {
		s, l := impl.SessNew(), ledger{}
		for i, next := range x.steps {
			s, l = checkStep(t, s, l, next)
			told[kindAndCode{next.op.Kind, x.told[i].Code}]++
		}
	}
	for _, k := range []kindAndCode{
		{impl.SoNew, impl.AnsOk}, {impl.SoNew, impl.AnsForm}, {impl.SoAdd, impl.AnsOk}, {impl.SoAdd, impl.AnsForm}, {impl.SoAdd, impl.AnsFull}, {impl.SoAdd, impl.AnsNo},
		{impl.SoPush, impl.AnsOk}, {impl.SoPush, impl.AnsFull}, {impl.SoPop, impl.AnsOk}, {impl.SoPop, impl.AnsForm},
		{impl.SoLe, impl.AnsForm}, {impl.SoLe, impl.AnsNo}, {impl.SoLe, impl.AnsYes}, {impl.SoEq, impl.AnsForm}, {impl.SoEq, impl.AnsNo}, {impl.SoEq, impl.AnsYes},
	} {
		if told[k] < 25 {
			t.Errorf("operations of the kind %d have the answer %d only %d times", k.kind, k.code, told[k])
		}
		delete(told, k)
	}
	if len(told) > 0 {
		t.Error("answers that their operations cannot have:", told)
	}
}

func opsOf(steps []step) []impl.SOp {
	var out []impl.SOp
	for _, x := range steps {
		out = append(out, x.op)
	}
	return out
}

func TestPromise9SessRunIsSessDoOperationByOperation(t *testing.T) {
	for _, x := range scripts(t) {
		ops := opsOf(x.steps)
		s := impl.SessNew()
		var answers []impl.Ans
		for n, o := range ops {
			next, ans := impl.SessDo(s, o)
			s, answers = next, append(answers, ans)
			if n%9 != 0 && n != len(ops)-1 {
				continue
			}
			end, told := impl.SessRun(ops[:n+1])
			if !sameSession(end, s) || !slices.EqualFunc(told, answers, sameAnswer) {
				t.Fatalf("SessRun(%v) = %v, %v, not %v, %v", ops[:n+1], end, told, s, answers)
			}
			if !sameSession(end, x.after[n].session()) || !sameAnswer(told[n], x.told[n]) {
				t.Fatalf("SessRun(%v) = %v, %v, not %v, %v", ops[:n+1], end, told[n], x.after[n].session(), x.told[n])
			}
		}
	}
}

func TestPromise9EveryOperationOnManySessions(t *testing.T) {
	kinds := []impl.SOp{pushOp(), popOp(), {}, {Kind: 7}, {Kind: -1}}
	for p := -2; p < 8; p++ {
		kinds = append(kinds, newOp(p))
	}
	for _, c := range slices.Concat(allCons(), badCons()) {
		kinds = append(kinds, addOp(c))
	}
	for _, p := range somePairs(3, 211) {
		kinds = append(kinds, ask(impl.SoLe, p).op, ask(impl.SoEq, p).op)
	}
	for _, s := range samples(t) {
		if !impl.SessOk(s) || !isSession(s) {
			t.Fatalf("the sample %v is not valid", s)
		}
		for _, o := range kinds {
			next, told := impl.SessDo(s, o)
			if !impl.SessOk(next) || !isSession(next) {
				t.Fatalf("SessDo(%v, %v) = %v, %v, which is not valid", s, o, next, told)
			}
			if told.Code != impl.AnsOk && !sameSession(next, s) || told.Code == impl.AnsOk && sameSession(next, s) {
				t.Fatalf("SessDo(%v, %v) = %v, %v", s, o, next, told)
			}
		}
	}
}

// changedFrames are sessions that differ from s in one place.
func changedFrames(s impl.Sess) []impl.Sess {
	var out []impl.Sess
	for i := range s.Frames {
		change := func(do func(f *impl.Frame)) {
			next := copiedSession(s)
			do(&next.Frames[i])
			out = append(out, next)
		}
		for p := -2; p < 7; p++ {
			change(func(f *impl.Frame) { f.Params = append(f.Params, p) })
			change(func(f *impl.Frame) { f.Params = slices.Insert(f.Params, 0, p) })
		}
		change(func(f *impl.Frame) { f.Params = nil })
		change(func(f *impl.Frame) { f.Cons = nil })
		change(func(f *impl.Frame) { *f = impl.Frame{} })
		for _, c := range slices.Concat(allCons(), []impl.Con{{U: -2}, {V: 5}, {Rel: 3}, {Rel: -1}, {U: -1, Rel: 4, V: -1}}) {
			change(func(f *impl.Frame) { f.Cons = append(f.Cons, c) })
		}
		out = append(out, session(slices.Delete(copiedSession(s).Frames, i, i+1)...))
		out = append(out, session(slices.Insert(copiedSession(s).Frames, i, impl.Frame{})...))
		swapped := copiedSession(s)
		swapped.Frames[0], swapped.Frames[i] = swapped.Frames[i], swapped.Frames[0]
		out = append(out, swapped)
	}
	return out
}

func TestSessOkIsWhatTheChapterCallsValid(t *testing.T) {
	valid, others := 0, 0
	for _, s := range samples(t) {
		for _, x := range changedFrames(s) {
			want := isSession(x)
			if impl.SessOk(x) != want {
				t.Fatalf("SessOk(%v) = %v", x, !want)
			}
			if want {
				valid++
				continue
			}
			others++
			if next, told := impl.SessDo(x, popOp()); !sameSession(next, impl.Sess{}) || !sameAnswer(told, codeOnly(impl.AnsForm)) || len(impl.SessLive(x))+len(impl.SessCons(x)) > 0 {
				t.Fatalf("SessDo(%v, pop) = %v, %v", x, next, told)
			}
		}
	}
	if valid < 5000 || others < 5000 {
		t.Error("few sessions of one kind:", valid, others)
	}
}

func TestPromise9AConstraintIsAcceptedExactlyIfAllAreSatisfiable(t *testing.T) {
	accepted, refused := 0, 0
	for _, s := range samples(t) {
		all, live := impl.SessCons(s), impl.SessLive(s)
		for _, c := range allCons() {
			if len(all) == 24 || c.U >= 0 && !slices.Contains(live, c.U) || c.V >= 0 && !slices.Contains(live, c.V) {
				continue
			}
			more := withCon(all, c)
			if satisfying(more).none() {
				refused++
				refusedOp(t, s, addOp(c), impl.AnsNo)
				continue
			}
			accepted++
			next, told := impl.SessDo(s, addOp(c))
			if !sameAnswer(told, codeOnly(impl.AnsOk)) || !slices.Equal(impl.SessCons(next), more) {
				t.Fatalf("SessDo(%v, %v) = %v, %v", s, addOp(c), next, told)
			}
			top := len(s.Frames) - 1
			if !slices.Equal(next.Frames[top].Cons, withCon(s.Frames[top].Cons, c)) || !slices.Equal(impl.SessLive(next), live) {
				t.Fatalf("SessDo(%v, %v) = %v", s, addOp(c), next)
			}
			if !impl.ConsImply(impl.SessCons(next), c) {
				t.Fatalf("%v does not hold in %v", c, next)
			}
		}
	}
	if accepted < 1000 || refused < 1000 {
		t.Error("few answers of one kind:", accepted, refused)
	}
}

// violates tells whether an env shows that two levels are not related.
func violates(kind int, a, b []impl.Tok, env []int) bool {
	x, y := treeOf(a).value(env), treeOf(b).value(env)
	return x > y || kind == impl.SoEq && x != y
}

func TestPromise9QuestionsAreAnsweredUnderAllConstraints(t *testing.T) {
	c := chooser(4711)
	told := map[kindAndCode]int{}
	for _, s := range samples(t) {
		all, live := impl.SessCons(s), impl.SessLive(s)
		for range 25 {
			x := c.question(live)
			_, ans := impl.SessDo(s, x.op)
			told[kindAndCode{x.op.Kind, ans.Code}]++
			if ans.Code == impl.AnsForm {
				continue
			}
			a, b := x.op.A, x.op.B
			related := impl.LeUnder(all, a, b)
			if x.op.Kind == impl.SoEq {
				related = impl.EqUnder(all, a, b)
			}
			if related {
				did(t, s, x.op, codeOnly(impl.AnsYes), s)
				continue
			}
			env, ok := impl.Witness(all, a, b)
			if !ok {
				env = witness(t, all, b, a)
			}
			did(t, s, x.op, impl.Ans{Code: impl.AnsNo, Env: env}, s)
			if !keepsAll(all, ans.Env) || !impl.ConsHold(all, ans.Env) || !violates(x.op.Kind, a, b, ans.Env) {
				t.Fatalf("SessDo(%v, %v) answers %v", s, x.op, ans)
			}
		}
	}
	for _, kind := range []int{impl.SoLe, impl.SoEq} {
		for _, code := range []int{impl.AnsNo, impl.AnsYes} {
			if told[kindAndCode{kind, code}] < 200 {
				t.Error("few answers of one kind:", told)
			}
		}
	}
}

// between are operations other than pushes and pops.
func (c *chooser) between(n int) []impl.SOp {
	live := []int{0, 1, 2, 3, 4}
	var out []impl.SOp
	for len(out) < n {
		out = append(out, c.step(live, 0, 0).op)
	}
	return out
}

func TestPromise9WhatIsPoppedLeavesNoTrace(t *testing.T) {
	c := chooser(31)
	changed := 0
	for i, s := range samples(t) {
		if len(s.Frames) == impl.MaxFrames {
			continue
		}
		for n := range 11 {
			inside, told := impl.SessDo(s, pushOp())
			if told.Code != impl.AnsOk || len(inside.Frames) != len(s.Frames)+1 {
				t.Fatalf("SessDo(%v, push) = %v, %v", s, inside, told)
			}
			for _, o := range c.between(n) {
				inside, _ = impl.SessDo(inside, o)
			}
			if last := inside.Frames[len(s.Frames)]; len(last.Params)+len(last.Cons) > 0 {
				changed++
			}
			did(t, inside, popOp(), codeOnly(impl.AnsOk), s)
			outside, _ := impl.SessDo(inside, popOp())
			if said := fmt.Sprint(impl.SessOk(outside), impl.SessLive(outside), impl.SessCons(outside)); said != fmt.Sprint(true, impl.SessLive(s), impl.SessCons(s)) {
				t.Fatalf("sample %d is %v after a push, %d operations and a pop, and was %v", i, outside, n, s)
			}
		}
	}
	if changed < 500 {
		t.Error("few of the operations that are popped change anything:", changed)
	}
}

// As many pops as pushes, one within the other.
func TestPromise9NestedPushesLeaveNoTrace(t *testing.T) {
	c := chooser(77)
	for _, s := range samples(t) {
		kept := []impl.Sess{s}
		inside := s
		for len(inside.Frames) < 8 {
			inside, _ = impl.SessDo(inside, pushOp())
			for _, o := range c.between(4) {
				inside, _ = impl.SessDo(inside, o)
			}
			kept = append(kept, copiedSession(inside))
		}
		for i := len(kept) - 1; i > 0; i-- {
			// The frames below the top one are never changed.
			if !sameSession(session(inside.Frames[:len(inside.Frames)-1]...), kept[i-1]) {
				t.Fatalf("%v lies on %v", inside, kept[i-1])
			}
			did(t, inside, popOp(), codeOnly(impl.AnsOk), kept[i-1])
			inside, _ = impl.SessDo(inside, popOp())
		}
	}
}

// Whatever stands between a push and its pop, the answers after it are those
// that there are without it.
func TestPromise9AnswersDoNotDependOnWhatWasPopped(t *testing.T) {
	c := chooser(5)
	for _, x := range scripts(t)[:8] {
		ops := opsOf(x.steps)[:60]
		s, told := impl.SessRun(ops)
		var longer []impl.SOp
		var at []int
		for i, o := range ops {
			if i%7 == 3 && len(x.after[i-1].session().Frames) < 8 {
				longer = slices.Concat(longer, []impl.SOp{pushOp()}, c.between(i%11), []impl.SOp{popOp()})
			}
			at = append(at, len(longer))
			longer = append(longer, o)
		}
		if len(longer) > 200 {
			t.Fatal(len(longer))
		}
		end, more := impl.SessRun(longer)
		if !sameSession(end, s) {
			t.Fatalf("SessRun(%v) = %v, not %v", longer, end, s)
		}
		for i, n := range at {
			if !sameAnswer(more[n], told[i]) {
				t.Fatalf("SessRun(%v): the answer to operation %d is %v, not %v", longer, n, more[n], told[i])
			}
		}
	}
}

func TestPromise9LiveParametersAreThoseDeclaredAndNotPopped(t *testing.T) {
	again := 0
	for _, x := range scripts(t) {
		s := impl.SessNew()
		declared := [][]int{nil}
		var popped []int
		for i, next := range x.steps {
			s, _ = impl.SessDo(s, next.op)
			if x.told[i].Code != impl.AnsOk {
				continue
			}
			top := len(declared) - 1
			switch next.op.Kind {
			case impl.SoPush:
				declared = append(declared, nil)
			case impl.SoPop:
				popped = append(popped, declared[top]...)
				declared = declared[:top]
			case impl.SoNew:
				declared[top] = append(declared[top], next.op.P)
				if slices.Contains(popped, next.op.P) {
					again++
				}
			}
			want := slices.Concat(declared...)
			slices.Sort(want)
			if live := impl.SessLive(s); !slices.Equal(live, want) {
				t.Fatalf("SessLive(%v) = %v, not %v", s, live, want)
			}
		}
	}
	if again < 40 {
		t.Error("few parameters are declared again:", again)
	}
}
