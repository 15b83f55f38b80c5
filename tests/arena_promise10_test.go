package tests

import (
	"slices"
	"testing"

	"loop.example/g00744/impl"
)

// checkPut puts a level into an arena for which there is room, and checks
// everything that the promise says of it.
func checkPut(t *testing.T, list []impl.Node, l []impl.Tok) ([]impl.Node, int) {
	t.Helper()
	after, at := putLevel(t, list, l)
	want, wantAt := expectedPut(list, l)
	if !slices.Equal(after, want) || at != wantAt {
		t.Fatalf("ArenaPut(%v, %v) = %v, %d, not %v, %d", list, l, after, at, want, wantAt)
	}
	if len(after) < len(list) || !slices.Equal(after[:len(list)], list) {
		t.Fatalf("ArenaPut(%v, %v) = %v: a node was moved", list, l, after)
	}
	if !isArena(after) || !impl.ArenaOk(after) {
		t.Fatalf("ArenaPut(%v, %v) = %v, which is no arena", list, l, after)
	}
	back, ok := impl.ArenaLevel(after, at)
	if !ok || !slices.Equal(back, l) {
		t.Fatalf("%v was put, and is %v, %v", l, back, ok)
	}
	return after, at
}

func checkPutTwice(t *testing.T, list []impl.Node, l []impl.Tok, at int) {
	t.Helper()
	again, atAgain := putLevel(t, list, l)
	if atAgain != at || !slices.Equal(again, list) {
		t.Fatalf("%v has the index %d in %v, and the second time %d in %v", l, at, list, atAgain, again)
	}
}

func TestPromise10LevelsAreReturnedAsTheyWerePut(t *testing.T) {
	for _, l := range append(shortLevels(5), arenaLevels(t)...) {
		list, at := checkPut(t, nil, l)
		if at != len(list)-1 {
			t.Fatalf("%v is node %d of %v", l, at, list)
		}
		checkPutTwice(t, list, l, at)
	}
}

func TestPromise10LevelsArePutIntoAllKindsOfArenas(t *testing.T) {
	full := 0
	for _, list := range arenas(t) {
		for _, l := range arenaLevels(t) {
			if want, _ := expectedPut(list, l); len(want) > 200 {
				refusedPut(t, list, l)
				full++
				continue
			}
			after, at := checkPut(t, list, l)
			checkPutTwice(t, after, l, at)
		}
	}
	if full < 100 {
		t.Errorf("only %d arenas were full", full)
	}
}

func TestPromise10NodesHaveTheValuesOfTheirLevels(t *testing.T) {
	for _, l := range append(shortLevels(4), longLevels(t)...) {
		list, at := putLevel(t, nil, l)
		for _, env := range envsOver(0, 1, 3) {
			if v := evalNode(t, list, at, env); v != evalLevel(t, l, env) {
				t.Fatalf("%v is %d for %v, and put %d", l, evalLevel(t, l, env), env, v)
			}
		}
	}
	for _, list := range arenas(t) {
		for k, l := range arenaLevels(t) {
			after, at, ok := impl.ArenaPut(list, l)
			if !ok {
				continue
			}
			env := arenaEnvs()[(k*5+len(list))%len(arenaEnvs())]
			if v := evalNode(t, after, at, env); v != treeOf(l).value(env) {
				t.Fatalf("%v is %d for %v, and put into %v %d", l, treeOf(l).value(env), env, list, v)
			}
		}
	}
}

// All levels stand in one arena, and each keeps its index while others are put.
func TestPromise10ManyLevelsInOneArena(t *testing.T) {
	for _, levels := range [][][]impl.Tok{longLevels(t), shortLevels(3), underLevels()} {
		for turn := range 2 {
			var list []impl.Node
			var indices []int
			for _, l := range levels {
				next, at := checkPut(t, list, l)
				list, indices = next, append(indices, at)
			}
			for i, l := range levels {
				checkPutTwice(t, list, l, indices[i])
				if back, ok := impl.ArenaLevel(list, indices[i]); !ok || !slices.Equal(back, l) {
					t.Fatalf("%v was put, and is %v, %v", l, back, ok)
				}
			}
			if turn == 0 {
				levels = slices.Clone(levels)
				slices.Reverse(levels)
			}
		}
	}
}

// Two different levels have two indices, though they may have the same values.
func TestPromise10DifferentLevelsHaveDifferentIndices(t *testing.T) {
	levels := shortLevels(4)
	list := levelsInOne(levels)
	levelAt := map[int][]impl.Tok{}
	for _, l := range levels {
		_, at, ok := impl.ArenaPut(list, l)
		if !ok {
			t.Fatalf("%v does not fit: %d nodes", l, len(list))
		}
		if other, twice := levelAt[at]; twice {
			t.Fatalf("%v and %v have the index %d", l, other, at)
		}
		levelAt[at] = l
	}
}

func TestPromise10EveryNodeHasItsLevelAndItsValue(t *testing.T) {
	short, long := 0, 0
	for _, list := range arenas(t) {
		if !impl.ArenaOk(list) {
			t.Fatalf("ArenaOk(%v) is false", list)
		}
		for i := range list {
			want, wantOk := expectedLevel(list, i)
			if l, ok := impl.ArenaLevel(list, i); ok != wantOk || !slices.Equal(l, want) {
				t.Fatalf("ArenaLevel(%v, %d) = %v, %v, not %v, %v", list, i, l, ok, want, wantOk)
			}
			if wantOk {
				checkPutTwice(t, list, want, i)
				short++
			} else {
				long++
			}
			env := arenaEnvs()[i*7%len(arenaEnvs())]
			if v := evalNode(t, list, i, env); v != expectedValue(list, i, env, map[int]int{}) {
				t.Fatalf("ArenaEval(%v, %d, %v) = %d", list, i, env, v)
			}
		}
	}
	if short < 500 || long < 500 {
		t.Errorf("%d levels, and %d too long", short, long)
	}
}

// A put leaves the levels and the values of the nodes that were there before.
func TestPromise10PuttingChangesNoOtherNode(t *testing.T) {
	for k, list := range arenas(t) {
		l := longLevels(t)[k%len(longLevels(t))]
		after, _, ok := impl.ArenaPut(list, l)
		if !ok {
			continue
		}
		sameRoots(t, list, after, indicesOf(list), indicesOf(list))
	}
}

func indicesOf(list []impl.Node) []int {
	var out []int
	for i := range list {
		out = append(out, i)
	}
	return out
}

// sameRoots checks that nodes of one arena have the levels and the values of
// nodes of another one.
func sameRoots(t *testing.T, one, other []impl.Node, inOne, inOther []int) {
	t.Helper()
	envs := arenaEnvs()
	for k, i := range inOne {
		a, okA := impl.ArenaLevel(one, i)
		b, okB := impl.ArenaLevel(other, inOther[k])
		if okA != okB || !slices.Equal(a, b) {
			t.Fatalf("node %d of %v is %v, %v, and node %d of %v is %v, %v", i, one, a, okA, inOther[k], other, b, okB)
		}
		for _, env := range [][]int{envs[k%len(envs)], envs[(k*3+11)%len(envs)]} {
			if v, w := evalNode(t, one, i, env), evalNode(t, other, inOther[k], env); v != w {
				t.Fatalf("node %d of %v is %d for %v, and node %d of %v is %d", i, one, v, env, inOther[k], other, w)
			}
		}
	}
}

func TestPromise10Parts(t *testing.T) {
	for _, list := range arenas(t) {
		for i := range list {
			parts := impl.ArenaParts(list, i)
			if len(parts) == 0 || parts[len(parts)-1] != i || parts[0] < 0 {
				t.Fatalf("ArenaParts(%v, %d) = %v", list, i, parts)
			}
			used := map[int]bool{i: true}
			for k, part := range parts {
				if k > 0 && parts[k-1] >= part {
					t.Fatalf("ArenaParts(%v, %d) = %v is not ascending", list, i, parts)
				}
				for _, operand := range operandsOf(list[part]) {
					if used[operand] = true; !slices.Contains(parts, operand) {
						t.Fatalf("ArenaParts(%v, %d) = %v lacks %d", list, i, parts, operand)
					}
				}
			}
			for _, part := range parts {
				if !used[part] {
					t.Fatalf("ArenaParts(%v, %d) = %v: nothing uses %d", list, i, parts, part)
				}
			}
			if want := expectedParts(list, i); !slices.Equal(parts, want) {
				t.Fatalf("ArenaParts(%v, %d) = %v, not %v", list, i, parts, want)
			}
		}
	}
}

// checkKeep returns what is kept, after all that the promise says of it.
func checkKeep(t *testing.T, list []impl.Node, roots ...int) ([]impl.Node, []int) {
	t.Helper()
	nodes, at := keepRoots(t, list, roots...)
	want, wantAt := expectedKeep(list, roots)
	if !slices.Equal(nodes, want) || !slices.Equal(at, wantAt) {
		t.Fatalf("ArenaKeep(%v, %v) = %v, %v, not %v, %v", list, roots, nodes, at, want, wantAt)
	}
	if !isArena(nodes) || !impl.ArenaOk(nodes) {
		t.Fatalf("ArenaKeep(%v, %v) = %v, which is no arena", list, roots, nodes)
	}
	sameRoots(t, list, nodes, roots, at)
	return nodes, at
}

func TestPromise10EachRootAloneKeepsItsValues(t *testing.T) {
	for _, list := range arenas(t) {
		for i := range list {
			nodes, at := checkKeep(t, list, i)
			if at[0] != len(nodes)-1 || len(nodes) != len(impl.ArenaParts(list, i)) {
				t.Fatalf("ArenaKeep(%v, [%d]) = %v, %v", list, i, nodes, at)
			}
		}
	}
}

func TestPromise10SeveralRootsKeepTheirValues(t *testing.T) {
	c := chooser(17)
	for _, list := range arenas(t) {
		if len(list) == 0 {
			continue
		}
		for n := range 12 {
			var roots []int
			for range n {
				roots = append(roots, c.below(len(list)))
			}
			nodes, at := checkKeep(t, list, roots...)
			again, atAgain := checkKeep(t, nodes, at...)
			if !slices.Equal(again, nodes) || !slices.Equal(atAgain, at) {
				t.Fatalf("%v, %v is kept as %v, %v", nodes, at, again, atAgain)
			}
		}
	}
}

func TestPromise10AllNodesAreKept(t *testing.T) {
	for _, list := range arenas(t) {
		all := indicesOf(list)
		nodes, at := checkKeep(t, list, all...)
		if !slices.Equal(nodes, list) || !slices.Equal(at, all) {
			t.Fatalf("%v is kept as %v, %v", list, nodes, at)
		}
		slices.Reverse(all)
		nodes, at = checkKeep(t, list, all...)
		if !slices.Equal(nodes, list) || !slices.Equal(at, all) {
			t.Fatalf("%v is kept as %v, %v", list, nodes, at)
		}
	}
}

// What was put before is found in what was kept, and what was not kept can be
// put again.
func TestPromise10LevelsArePutIntoWhatWasKept(t *testing.T) {
	levels := longLevels(t)
	var list []impl.Node
	var indices []int
	for _, l := range levels {
		next, at := putLevel(t, list, l)
		list, indices = next, append(indices, at)
	}
	for i := range levels {
		k := (i + 3) % len(levels)
		nodes, at := keepRoots(t, list, indices[i], indices[k])
		checkPutTwice(t, nodes, levels[i], at[0])
		checkPutTwice(t, nodes, levels[k], at[1])
		for _, l := range levels {
			after, again := checkPut(t, nodes, l)
			sameRoots(t, list, after, []int{indices[i], indices[k]}, at)
			checkPutTwice(t, after, l, again)
		}
	}
}
