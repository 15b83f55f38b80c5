package tests

import (
	"fmt"
	"slices"
	"testing"

	"loop.example/g00744/impl"
)

var scribbleCon = impl.Con{U: 77, Rel: 77, V: 77}

// askCons calls every function of the list, overwrites what they return, and
// tells what it was.
func askCons(list []impl.Con) string {
	least, sat := impl.ConsLeast(list)
	signs, core := impl.ConsSigns(list), impl.ConsCore(list)
	thin, ok := impl.ConsThin(list)
	said := fmt.Sprint(impl.ConsOk(list), impl.ConsSat(list), impl.ConsHold(list, zeroEnv()), least, sat, signs, core, thin, ok,
		impl.ConsFar(list, 0, 1), impl.ConsFar(list, -1, 2), impl.ConsImply(list, le(0, 2)))
	scribble(least, -7)
	scribble(signs, -7)
	scribble(core, -7)
	scribble(thin, scribbleCon)
	return said
}

// Lists that differ in what the functions return for them: satisfiable ones
// from which much, little and nothing goes, and ones that are not.
func memoryLists() [][]impl.Con {
	return [][]impl.Con{
		{lt(0, 1), le(1, 2), lt(-1, 0), le(0, 2)},
		{lt(0, 1), le(1, 2)},
		{eq(3, 4), eq(4, 3), le(3, 4)},
		{lt(0, 1), le(1, 2), le(2, 0), le(3, 3)},
		{lt(0, 0)},
		{le(0, 5)},
		nil,
	}
}

func TestConstraintsModifyAndShareNothing(t *testing.T) {
	for _, behind := range []impl.Con{le(0, 0), lt(0, 0), scribbleCon} {
		for _, plain := range memoryLists() {
			list := spare(plain, behind)
			kept := whole(list)
			askCons(list)
			if !slices.Equal(whole(list), kept) {
				t.Errorf("%v was modified or is shared with a result", plain)
			}
		}
	}
	env := spare([]int{1, 2, 3, 4, 5}, 9)
	kept := whole(env)
	impl.ConHolds(lt(0, 1), env)
	impl.ConsHold([]impl.Con{lt(0, 1)}, env)
	if !slices.Equal(whole(env), kept) {
		t.Error("an env was modified")
	}
}

// What stands behind the length is not valid, or contradicts the list.
func TestConstraintsReadNothingBehindTheLength(t *testing.T) {
	for _, plain := range memoryLists() {
		want := askCons(plain)
		for _, behind := range []impl.Con{le(0, 0), lt(0, 0), lt(1, 0), scribbleCon} {
			if said := askCons(spare(plain, behind)); said != want {
				t.Errorf("%v with %v behind it: %s, not %s", plain, behind, said, want)
			}
		}
	}
	full := slices.Repeat([]impl.Con{lt(0, 1)}, 30)
	if !impl.ConsOk(full[:impl.MaxCons]) || impl.ConsOk(full[:impl.MaxCons+1]) {
		t.Error("the capacity of a list is counted")
	}
	if env := make([]int, 9); impl.ConHolds(le(0, 1), env[:4]) || impl.ConsHold(nil, env[:4]) || !impl.ConHolds(le(0, 1), env[:5]) {
		t.Error("an element behind the length of an env is read")
	}
}

func TestTwoResultsOfConstraintsShareNothing(t *testing.T) {
	list := []impl.Con{lt(0, 1), le(1, 2), lt(-1, 0), le(0, 2)}
	env, other := leastEnv(t, list), leastEnv(t, list)
	scribble(env, -7)
	if !slices.Equal(other, []int{1, 2, 2, 0, 0}) || !slices.Equal(leastEnv(t, list), other) {
		t.Error("ConsLeast", other)
	}
	signs, otherSigns := impl.ConsSigns(list), impl.ConsSigns(list)
	scribble(signs, -7)
	if !slices.Equal(otherSigns, []int{7, 15, 23, 31}) || !slices.Equal(impl.ConsSigns(list), otherSigns) {
		t.Error("ConsSigns", otherSigns)
	}
	thin, otherThin := thinned(t, list), thinned(t, list)
	scribble(thin, scribbleCon)
	if !slices.Equal(otherThin, list[:3]) || !slices.Equal(thinned(t, list), otherThin) {
		t.Error("ConsThin", otherThin)
	}
	// Where nothing goes, the result is still not the argument.
	short := list[:3]
	scribble(thinned(t, short), scribbleCon)
	if !slices.Equal(short, []impl.Con{lt(0, 1), le(1, 2), lt(-1, 0)}) {
		t.Error("ConsThin returns its argument")
	}
	bad := []impl.Con{le(4, 4), lt(0, 1), le(1, 0)}
	core, otherCore := impl.ConsCore(bad), impl.ConsCore(bad)
	scribble(core, -7)
	if !slices.Equal(otherCore, []int{1, 2}) || !slices.Equal(impl.ConsCore(bad), otherCore) {
		t.Error("ConsCore", otherCore)
	}
}

// The same memory holds another list each time, so that anything kept for the
// list before would show.
func TestConstraintsKeepNoState(t *testing.T) {
	memory := []impl.Con{lt(0, 1), le(1, 2)}
	for range 3 {
		for _, u := range sides() {
			for _, v := range sides() {
				for _, rel := range []int{impl.RelLt, impl.RelLe, impl.RelEq} {
					memory[1] = impl.Con{U: u, Rel: rel, V: v}
					set := satisfying(memory)
					if impl.ConsSat(memory) == set.none() {
						t.Fatalf("ConsSat(%v) = %v", memory, set.none())
					}
					if far := impl.ConsFar(memory, u, v); !set.none() && far != expectedFar(set, u, v) {
						t.Fatalf("ConsFar(%v, %d, %d) = %d", memory, u, v, far)
					}
					askCons(memory)
					askCons([]impl.Con{lt(0, 0)})
					askCons([]impl.Con{scribbleCon})
				}
			}
		}
	}
}

func TestConstraintsDoNotDependOnTheOrderOfCalls(t *testing.T) {
	lists := append(someLists(31), memoryLists()...)
	var forward []string
	for _, list := range lists {
		forward = append(forward, askCons(list))
	}
	for i := len(lists) - 1; i >= 0; i-- {
		if said := askCons(lists[i]); said != forward[i] {
			t.Fatalf("%s for %v, and %s before", said, lists[i], forward[i])
		}
	}
}
