package tests

import (
	"fmt"
	"math"
	"slices"
	"testing"

	"loop.example/g00744/impl"
)

var behindNode = impl.Node{Op: impl.OpParam, N: 2, A: -1, B: -1}
var scribbleNode = impl.Node{Op: 77, N: 77, A: 77, B: 77}

// An arenaCall has the arguments of every function of chapter 8.
type arenaCall struct {
	list  []impl.Node
	l     []impl.Tok
	i     int
	env   []int
	roots []int
}

// ask calls every function of chapter 8, overwrites what they return, and tells
// what it was.
func (c arenaCall) ask() string {
	after, at, put := impl.ArenaPut(c.list, c.l)
	level, hasLevel := impl.ArenaLevel(c.list, c.i)
	value, hasValue := impl.ArenaEval(c.list, c.i, c.env)
	parts := impl.ArenaParts(c.list, c.i)
	nodes, roots, kept := impl.ArenaKeep(c.list, c.roots)
	said := fmt.Sprint(impl.ArenaOk(c.list), after, at, put, level, hasLevel, value, hasValue, parts, nodes, roots, kept)
	scribble(after, scribbleNode)
	scribble(level, scribbleTok)
	scribble(parts, -7)
	scribble(nodes, scribbleNode)
	scribble(roots, -7)
	return said
}

// tell tells everything in the memory of the arguments.
func (c arenaCall) tell() string {
	return fmt.Sprint(whole(c.list), whole(c.l), whole(c.env), whole(c.roots))
}

// withSpare has the same arguments with room behind each of them, in which
// stands what would make it another one.
func (c arenaCall) withSpare(behind impl.Node) arenaCall {
	return arenaCall{spare(c.list, behind), spare(c.l, behindTok), c.i, spare(c.env, 9), spare(c.roots, 0)}
}

// arenaCalls succeed with some of the functions, and fail with others.
func arenaCalls(t *testing.T) []arenaCall {
	t.Helper()
	list := []impl.Node{paramNode(0), succNode(0), paramNode(1), maxNode(1, 2), imaxNode(2, 1)}
	env := []int{3, 0, 2, 0, 1000}
	l := readLevel(t, "u1 u0 s imax")
	return []arenaCall{
		{list, l, 4, env, []int{4, 1}},
		{list, readLevel(t, "u0 u0 s s max 0 imax"), 3, env, []int{0, 1, 2, 3, 4}},
		{list, readLevel(t, "0"), 0, zeroEnv(), []int{3, 3}},
		{list, nil, 1, nil, []int{}},
		{list, readLevel(t, "u3"), 5, env, []int{5, 0}},
		{list, tower(25), -1, []int{1, 2, 3, 4, 1001}, []int{1, -1}},
		{nil, l, 0, env, nil},
		{nil, l, 0, env, []int{0}},
		{[]impl.Node{zeroNode()}, readLevel(t, "0"), 0, env, []int{0}},
		{chain(0, 200), readLevel(t, "u0 s s"), 199, env, []int{100, 3}},
		{chain(0, 200), l, 23, env, []int{199}},
		{chain(0, 199), readLevel(t, "u2"), 23, env, []int{23}},
		{chain(0, 201), l, 23, env, []int{5}},
		{doubling(200, maxNode), l, 199, env, []int{199}},
		{[]impl.Node{zeroNode(), zeroNode()}, l, 0, env, []int{0}},
		{[]impl.Node{zeroNode(), succNode(1)}, l, 0, env, nil},
		{chosenArena(4, 150), l, 140, env, []int{149, 20, 75}},
	}
}

// A memoryCall asks functions, overwrites what they return, and tells what it
// was. It also tells everything in the memory of its arguments.
type memoryCall interface {
	ask() string
	tell() string
}

// leftAlone checks that a call with room behind its arguments answers what the
// plain one does, time after time, and that its arguments stay as they are.
func leftAlone(t *testing.T, k int, plain, c memoryCall) {
	t.Helper()
	kept := c.tell()
	want := plain.ask()
	for range 3 {
		if said := c.ask(); said != want {
			t.Errorf("call %d: %s, not %s", k, said, want)
		}
		if c.tell() != kept {
			t.Errorf("an argument of call %d was modified, or is shared with a result", k)
		}
	}
}

// inAnyOrder checks that the calls answer backwards what they do forwards.
func inAnyOrder[C memoryCall](t *testing.T, calls []C, times int) {
	t.Helper()
	var forward []string
	for _, c := range calls {
		forward = append(forward, c.ask())
	}
	for range times {
		for k, c := range slices.Backward(calls) {
			if said := c.ask(); said != forward[k] {
				t.Fatalf("%s for call %d, and %s before", said, k, forward[k])
			}
		}
	}
}

func TestArenasModifyAndShareNothing(t *testing.T) {
	for k, plain := range arenaCalls(t) {
		leftAlone(t, k, plain, plain.withSpare(behindNode))
	}
}

func TestArenasReadNothingBehindTheLength(t *testing.T) {
	behind := []impl.Node{behindNode, scribbleNode, zeroNode(), paramNode(0), paramNode(1), succNode(0), maxNode(1, 2), succNode(500)}
	for k, plain := range arenaCalls(t) {
		want := plain.ask()
		for _, n := range behind {
			if said := plain.withSpare(n).ask(); said != want {
				t.Errorf("call %d with %v behind it: %s, not %s", k, n, said, want)
			}
		}
	}
	long := chain(1, 400)
	if !impl.ArenaOk(long[:200]) || impl.ArenaOk(long[:201]) || !impl.ArenaOk(long[:0]) {
		t.Error("the capacity of an arena is counted")
	}
	notANode(t, long[:3], 3)
	notANode(t, long[:0], 0)
	if list, at := putLevel(t, long[:1], readLevel(t, "u1 s")); len(list) != 2 || at != 1 || long[1] != succNode(0) {
		t.Error(list, at, long[:3])
	}
}

// A slice that a function returned.
type returned struct {
	overwrite func()
	tell      func() string
}

func returnedList[T any](list []T, with T) returned {
	return returned{func() { scribble(list, with) }, func() string { return fmt.Sprint(list) }}
}

// results are those of every function, of some of them twice.
func (c arenaCall) results() []returned {
	after, _, _ := impl.ArenaPut(c.list, c.l)
	again, _, _ := impl.ArenaPut(after, c.l)
	level, _ := impl.ArenaLevel(c.list, c.i)
	otherLevel, _ := impl.ArenaLevel(c.list, c.i)
	nodes, roots, _ := impl.ArenaKeep(c.list, c.roots)
	otherNodes, otherRoots, _ := impl.ArenaKeep(nodes, roots)
	return []returned{
		returnedList(after, scribbleNode), returnedList(again, scribbleNode),
		returnedList(level, scribbleTok), returnedList(otherLevel, scribbleTok),
		returnedList(impl.ArenaParts(c.list, c.i), -7), returnedList(impl.ArenaParts(c.list, c.i), -7),
		returnedList(nodes, scribbleNode), returnedList(otherNodes, scribbleNode),
		returnedList(roots, -7), returnedList(otherRoots, -7),
	}
}

// Each result is overwritten in turn, with the room behind it, and no other one
// may change.
func TestTwoResultsOfArenasShareNothing(t *testing.T) {
	for k, c := range arenaCalls(t) {
		for i := range c.results() {
			all := c.results()
			var want []string
			for _, x := range all {
				want = append(want, x.tell())
			}
			all[i].overwrite()
			for m, x := range all {
				if m != i && x.tell() != want[m] {
					t.Errorf("results %d and %d of call %d are shared: %s, not %s", i, m, k, x.tell(), want[m])
				}
			}
		}
	}
}

// The same memory holds another arena each time, so that anything kept for the
// one before would show.
func TestArenasKeepNoState(t *testing.T) {
	list := []impl.Node{zeroNode(), paramNode(0), succNode(0)}
	for p := range impl.MaxParams {
		for _, n := range []impl.Node{succNode(0), succNode(1), maxNode(0, 1), imaxNode(1, 0), maxNode(0, 2), zeroNode(), paramNode(p), paramNode(1)} {
			list[1], list[2] = paramNode(p), n
			if !isArena(list) {
				notAnArena(t, list)
				continue
			}
			checkPut(t, list, readLevel(t, "u1 0 s imax"))
			checkKeep(t, list, 2)
			want, _ := expectedLevel(list, 2)
			if l, ok := impl.ArenaLevel(list, 2); !ok || !slices.Equal(l, want) {
				t.Fatalf("ArenaLevel(%v, 2) = %v, %v", list, l, ok)
			}
		}
	}
	// What was put into one arena is in no other one.
	putLevel(t, list[:1], readLevel(t, "u4 s"))
	if after, at := putLevel(t, list[:1], readLevel(t, "u4 s")); at != 2 || len(after) != 3 {
		t.Error(after, at)
	}
	if after, at := putLevel(t, nil, readLevel(t, "u4 s")); at != 1 || len(after) != 2 {
		t.Error(after, at)
	}
}

// A map has another order each time that it is ranged over.
func TestArenasDoNotDependOnTheOrderOfCallsOrOfAMap(t *testing.T) {
	calls := arenaCalls(t)
	for k, list := range arenas(t) {
		n := max(len(list), 1)
		calls = append(calls, arenaCall{list, longLevels(t)[k%len(longLevels(t))], k * 31 % n, arenaEnvs()[k%len(arenaEnvs())], []int{k % n, k * 7 % n, k * 13 % n}})
	}
	inAnyOrder(t, calls, 8)
}

func TestNoArenaPanics(t *testing.T) {
	numbers := []int{math.MinInt, -2, -1, 0, 1, 2, 3, 4, 5, 199, 200, math.MaxInt}
	lists := [][]impl.Node{nil, {}, {{}}, chain(0, 200), chain(0, 201), make([]impl.Node, 100000), slices.Repeat([]impl.Node{scribbleNode}, 200)}
	for _, op := range numbers {
		for _, n := range numbers {
			lists = append(lists, []impl.Node{{Op: op, N: n, A: -1, B: -1}}, []impl.Node{paramNode(0), {Op: op, A: n, B: n}, {Op: n, A: op, B: -1}})
			for _, b := range numbers {
				lists = append(lists, []impl.Node{zeroNode(), paramNode(3), {Op: op, A: n, B: b}, {Op: impl.OpSucc, A: -1, B: 2}})
			}
		}
	}
	levels := append(badLevels(), readLevel(t, "u3 0 s imax"), tower(24), make([]impl.Tok, 100000), []impl.Tok{{Op: math.MaxInt, N: math.MinInt}})
	envs := append(badEnvs(), []int{1, 2, 3, 4, 5}, make([]int, 100000))
	roots := [][]int{nil, {}, numbers, {0, 1}, {3}, make([]int, 100000)}
	for k, list := range lists {
		impl.ArenaOk(list)
		for m, l := range levels {
			if k < 10 || (k+m)%7 == 0 {
				impl.ArenaPut(list, l)
			}
		}
		for m, i := range numbers {
			impl.ArenaLevel(list, i)
			impl.ArenaParts(list, i)
			impl.ArenaKeep(list, []int{i, 0})
			impl.ArenaEval(list, i, envs[(k+m)%len(envs)])
			impl.ArenaEval(list, i, envs[len(envs)-2])
		}
		for _, r := range roots {
			impl.ArenaKeep(list, r)
		}
	}
}
