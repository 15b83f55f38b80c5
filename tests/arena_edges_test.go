package tests

import (
	"math"
	"slices"
	"testing"
	"time"

	"loop.example/g00744/impl"
)

func TestExampleOfArenas(t *testing.T) {
	list, at := arenaOf(t, "u0 s u0 s max")
	if !slices.Equal(list, []impl.Node{paramNode(0), succNode(0), maxNode(1, 1)}) || at[0] != 2 {
		t.Error(list, at)
	}
}

func TestArenaOfNoNodes(t *testing.T) {
	for _, none := range [][]impl.Node{nil, {}} {
		if !impl.ArenaOk(none) {
			t.Error("an arena of no nodes is refused")
		}
		for _, i := range []int{-1, 0, 1, math.MinInt, math.MaxInt} {
			notANode(t, none, i)
		}
		if nodes, at := keepRoots(t, none); len(nodes) != 0 || len(at) != 0 {
			t.Error(nodes, at)
		}
		if list, at := putLevel(t, none, readLevel(t, "u3")); !slices.Equal(list, []impl.Node{paramNode(3)}) || at != 0 {
			t.Error(list, at)
		}
	}
}

func TestMaxArena(t *testing.T) {
	if impl.MaxArena != 200 {
		t.Error(impl.MaxArena)
	}
	full := chain(1, 200)
	for _, n := range []int{199, 200} {
		list := full[:n]
		if !impl.ArenaOk(list) || len(impl.ArenaParts(list, n-1)) != n {
			t.Errorf("an arena of %d nodes is refused", n)
		}
		if nodes, at := keepRoots(t, list, n-1); !slices.Equal(nodes, list) || at[0] != n-1 {
			t.Errorf("%d nodes are kept as %v, %v", n, nodes, at)
		}
		if v := evalNode(t, list, n-1, []int{0, 5, 0, 0, 0}); v != n+4 {
			t.Errorf("the last of %d nodes is %d", n, v)
		}
		if l, ok := impl.ArenaLevel(list, 1); !ok || impl.LevelText(l) != "u1 s" {
			t.Error(l, ok)
		}
	}
	for _, n := range []int{201, 202, 225, 256, 1000, 100000} {
		notAnArena(t, chain(1, n))
		notAnArena(t, append(slices.Clone(full), slices.Repeat([]impl.Node{zeroNode()}, n-200)...))
	}
}

// In a full arena there is room for just what is there already.
func TestPutIntoAFullArena(t *testing.T) {
	full := chain(1, 200)
	for n := 1; n <= 24; n++ {
		if list, at := putLevel(t, full, tower(n)); !slices.Equal(list, full) || at != n-1 {
			t.Errorf("%d tokens: %v, %d", n, list, at)
		}
	}
	for _, text := range []string{"0", "u0", "u1 u1 max", "u1 s s u1 imax", "u0 s"} {
		refusedPut(t, full, readLevel(t, text))
	}
	refusedPut(t, full, tower(25))
}

// The chains get longer until there is no room for the new nodes of the level.
func TestRoomForTheNewNodes(t *testing.T) {
	for _, l := range append(longLevels(t), readLevels(t, "0", "u0 u1 max", "u1 s s u1 s max", "u3 s s s u3 s s imax u3 max")...) {
		fits, over := 0, 0
		for n := 170; n <= 200; n++ {
			list := chain(3, n)
			want, _ := expectedPut(list, l)
			if len(want) > 200 {
				refusedPut(t, list, l)
			} else {
				checkPut(t, list, l)
			}
			if len(want) == 200 && n < 200 {
				fits++
			}
			if len(want) == 201 {
				over++
			}
		}
		if fits != 1 || over != 1 {
			t.Errorf("%v: %d, %d", l, fits, over)
		}
	}
}

func TestOpsThatAreNoneOfATokens(t *testing.T) {
	for _, op := range []int{-1, 5, 6, -4, 256, 1 << 32, 1<<32 + 4, math.MaxInt, math.MinInt} {
		for _, operands := range [][2]int{{-1, -1}, {-1, 0}, {0, -1}, {0, 0}, {0, 1}} {
			n := impl.Node{Op: op, A: operands[0], B: operands[1]}
			invalidAnywhere(t, n)
		}
	}
}

func TestNsThatAreNotValid(t *testing.T) {
	for _, p := range badParams() {
		invalidAnywhere(t, paramNode(p))
	}
	for p := range impl.MaxParams {
		if !impl.ArenaOk([]impl.Node{paramNode(p)}) {
			t.Errorf("u%d is refused", p)
		}
	}
	for _, n := range []impl.Node{zeroNode(), succNode(0), maxNode(0, 1), imaxNode(1, 0)} {
		for _, bad := range []int{1, 4, -1, 5, 256, 1 << 32, math.MaxInt, math.MinInt} {
			n.N = bad
			invalidAnywhere(t, n)
		}
	}
}

// invalidAnywhere checks that the node makes an arena invalid, wherever it
// stands: also after the nodes that are asked for, and before others.
func invalidAnywhere(t *testing.T, n impl.Node) {
	t.Helper()
	good := []impl.Node{paramNode(0), paramNode(1), zeroNode(), succNode(1)}
	notAnArena(t, []impl.Node{n})
	for at := range len(good) + 1 {
		notAnArena(t, slices.Insert(slices.Clone(good), at, n))
	}
	notAnArena(t, append(chain(0, 199), n))
}

func TestOperandsThatAreNotValid(t *testing.T) {
	base := []impl.Node{paramNode(0), paramNode(1), zeroNode(), succNode(1)}
	bad := []int{4, 5, 6, -2, -3, 199, 200, 1 << 32, math.MaxInt, math.MinInt, math.MinInt + 1}
	after := []impl.Node{paramNode(2), paramNode(3), paramNode(4)}
	refuse := func(n impl.Node) {
		t.Helper()
		list := append(slices.Clone(base), n)
		notAnArena(t, list)
		notAnArena(t, append(list, after...))
	}
	for _, k := range append(bad, -1) {
		refuse(succNode(k))
		for _, good := range []int{0, 3} {
			refuse(maxNode(k, good))
			refuse(maxNode(good, k))
			refuse(imaxNode(k, good))
			refuse(imaxNode(good, k))
		}
		refuse(maxNode(k, k))
		refuse(imaxNode(k, k))
	}
	for _, k := range append(bad, 0, 1, 3) {
		for _, n := range []impl.Node{{Op: impl.OpZero, N: 0}, {Op: impl.OpParam, N: 2}} {
			n.A, n.B = k, -1
			refuse(n)
			n.A, n.B = -1, k
			refuse(n)
			n.A, n.B = k, k
			refuse(n)
		}
		refuse(impl.Node{Op: impl.OpSucc, A: k, B: 0})
		refuse(impl.Node{Op: impl.OpSucc, A: k, B: -1})
	}
	for _, n := range []impl.Node{succNode(3), succNode(0), maxNode(3, 3), maxNode(0, 3), imaxNode(3, 0), imaxNode(0, 0)} {
		if list := append(slices.Clone(base), n); !impl.ArenaOk(list) {
			t.Errorf("%v is refused", list)
		}
	}
}

// A node that would be valid if the one it uses stood before it.
func TestOperandsThatComeLater(t *testing.T) {
	notAnArena(t, []impl.Node{succNode(1), paramNode(0)})
	notAnArena(t, []impl.Node{paramNode(0), succNode(2), succNode(0)})
	notAnArena(t, []impl.Node{paramNode(0), maxNode(0, 2), paramNode(1)})
	notAnArena(t, []impl.Node{paramNode(0), imaxNode(2, 0), paramNode(1)})
	notAnArena(t, []impl.Node{paramNode(0), succNode(1)})
	notAnArena(t, []impl.Node{paramNode(0), maxNode(0, 1)})
	notAnArena(t, []impl.Node{paramNode(0), maxNode(1, 0)})
	notAnArena(t, []impl.Node{paramNode(0), succNode(2), succNode(1)})
}

func TestAllSmallNodes(t *testing.T) {
	bases := [][]impl.Node{nil, {paramNode(1)}, {paramNode(0), succNode(0)}, {zeroNode(), paramNode(4), maxNode(1, 0)}}
	for _, base := range bases {
		for op := -1; op <= 5; op++ {
			for n := -1; n <= 5; n++ {
				for a := -2; a <= 4; a++ {
					for b := -2; b <= 4; b++ {
						list := append(slices.Clone(base), impl.Node{Op: op, N: n, A: a, B: b})
						if impl.ArenaOk(list) != isArena(list) {
							t.Fatalf("ArenaOk(%v) is %v", list, !isArena(list))
						}
						if !isArena(list) && (op+n+a+b)%5 == 0 {
							notAnArena(t, list)
						}
					}
				}
			}
		}
	}
}

func TestEqualNodes(t *testing.T) {
	list := []impl.Node{paramNode(0), zeroNode(), succNode(0), maxNode(0, 1), imaxNode(2, 2), paramNode(3)}
	if !impl.ArenaOk(list) {
		t.Fatal(list)
	}
	for _, n := range list {
		notAnArena(t, append(slices.Clone(list), n))
		notAnArena(t, append(slices.Clone(list), n, paramNode(4)))
		notAnArena(t, append(slices.Clone(list), paramNode(4), n))
	}
	notAnArena(t, []impl.Node{zeroNode(), zeroNode()})
	notAnArena(t, []impl.Node{paramNode(4), paramNode(4)})
	notAnArena(t, append(chain(0, 199), paramNode(0)))
	notAnArena(t, append(chain(0, 199), succNode(197)))
	// The same level, but by way of two equal nodes.
	notAnArena(t, []impl.Node{paramNode(0), paramNode(0), succNode(0), succNode(1)})
}

func TestNodesThatDifferInOneField(t *testing.T) {
	base := []impl.Node{paramNode(0), zeroNode()}
	groups := [][]impl.Node{
		{paramNode(1), paramNode(2), paramNode(3), paramNode(4)},
		{maxNode(0, 1), imaxNode(0, 1)},
		{maxNode(0, 1), maxNode(0, 0)},
		{maxNode(0, 1), maxNode(1, 1)},
		{maxNode(0, 1), maxNode(1, 0)},
		{imaxNode(0, 1), imaxNode(1, 1), imaxNode(0, 0), imaxNode(1, 0)},
		{succNode(0), succNode(1)},
		{maxNode(0, 0), imaxNode(0, 0), succNode(0)},
	}
	for _, group := range groups {
		list := slices.Concat(base, group)
		if !impl.ArenaOk(list) {
			t.Errorf("%v is refused", list)
		}
		for i := range list {
			l, ok := impl.ArenaLevel(list, i)
			if !ok {
				t.Fatalf("ArenaLevel(%v, %d) failed", list, i)
			}
			checkPutTwice(t, list, l, i)
		}
		checkKeep(t, list, indicesOf(list)...)
	}
	list, at := arenaOf(t, "u0 u1 max", "u0 u1 imax", "u1 u0 max", "u1 u0 imax", "u0 u0 max", "u0 s", "u1 s", "u0", "0", "0 s", "u0 u1 max")
	if len(list) != 11 || !slices.Equal(at, []int{2, 3, 4, 5, 6, 7, 8, 0, 9, 10, 2}) {
		t.Error(list, at)
	}
}

func TestPlacesOfOperands(t *testing.T) {
	for _, x := range []struct {
		text string
		want []impl.Node
	}{
		{"u3", []impl.Node{paramNode(3)}},
		{"0", []impl.Node{zeroNode()}},
		{"u2 s s", []impl.Node{paramNode(2), succNode(0), succNode(1)}},
		{"u0 u1 max", []impl.Node{paramNode(0), paramNode(1), maxNode(0, 1)}},
		{"u1 u0 imax", []impl.Node{paramNode(1), paramNode(0), imaxNode(0, 1)}},
		{"u0 u0 max", []impl.Node{paramNode(0), maxNode(0, 0)}},
		{"u0 u0 imax", []impl.Node{paramNode(0), imaxNode(0, 0)}},
		{"u0 s u0 max", []impl.Node{paramNode(0), succNode(0), maxNode(1, 0)}},
		{"u0 u0 s imax", []impl.Node{paramNode(0), succNode(0), imaxNode(0, 1)}},
		{"u0 u1 u2 imax max", []impl.Node{paramNode(0), paramNode(1), paramNode(2), imaxNode(1, 2), maxNode(0, 3)}},
		{"u0 u1 imax u2 max", []impl.Node{paramNode(0), paramNode(1), imaxNode(0, 1), paramNode(2), maxNode(2, 3)}},
		{"u0 u1 max u1 u0 max max", []impl.Node{paramNode(0), paramNode(1), maxNode(0, 1), maxNode(1, 0), maxNode(2, 3)}},
	} {
		list, at := putLevel(t, nil, readLevel(t, x.text))
		if !slices.Equal(list, x.want) || at != len(x.want)-1 {
			t.Errorf("%s: %v, %d", x.text, list, at)
		}
	}
	base := []impl.Node{paramNode(1), paramNode(0)}
	list, at := putLevel(t, base, readLevel(t, "u0 u1 max"))
	if at != 2 || list[2] != maxNode(1, 0) {
		t.Error(list, at)
	}
	list, at = putLevel(t, base, readLevel(t, "u1 u0 max"))
	if at != 2 || list[2] != maxNode(0, 1) {
		t.Error(list, at)
	}
}

// The level popped second is the one that imax drops.
func TestValuesOfOperandsInTheirPlaces(t *testing.T) {
	list := []impl.Node{paramNode(0), paramNode(1), imaxNode(0, 1), imaxNode(1, 0), maxNode(0, 1), maxNode(1, 0), imaxNode(0, 0), maxNode(1, 1)}
	for _, x := range []struct {
		env  []int
		want []int
	}{
		{[]int{3, 0, 0, 0, 0}, []int{3, 0, 0, 3, 3, 3, 3, 0}},
		{[]int{0, 4, 0, 0, 0}, []int{0, 4, 4, 0, 4, 4, 0, 4}},
		{[]int{3, 1, 0, 0, 0}, []int{3, 1, 3, 3, 3, 3, 3, 1}},
		{[]int{0, 0, 9, 9, 9}, []int{0, 0, 0, 0, 0, 0, 0, 0}},
	} {
		for i, want := range x.want {
			if v := evalNode(t, list, i, x.env); v != want {
				t.Errorf("node %d is %d for %v, not %d", i, v, x.env, want)
			}
		}
	}
	for i, want := range []string{"u0", "u1", "u0 u1 imax", "u1 u0 imax", "u0 u1 max", "u1 u0 max", "u0 u0 imax", "u1 u1 max"} {
		if l, ok := impl.ArenaLevel(list, i); !ok || impl.LevelText(l) != want {
			t.Errorf("node %d is %v, %v, not %s", i, l, ok, want)
		}
	}
}

func TestLevelsWhosePartsExist(t *testing.T) {
	base, _ := arenaOf(t, "u0 s u1 imax")
	for _, x := range []struct {
		text  string
		added []impl.Node
		at    int
	}{
		{"u0 s u1 imax", nil, 3},
		{"u0 s", nil, 1},
		{"u0", nil, 0},
		{"u1", nil, 2},
		{"u0 s u1 max", []impl.Node{maxNode(1, 2)}, 4},
		{"u1 u0 s imax", []impl.Node{imaxNode(2, 1)}, 4},
		{"u0 u1 imax", []impl.Node{imaxNode(0, 2)}, 4},
		{"u0 s u1 imax s", []impl.Node{succNode(3)}, 4},
		{"u0 s s u2 max", []impl.Node{succNode(1), paramNode(2), maxNode(4, 5)}, 6},
		{"u2 u0 s u1 imax max", []impl.Node{paramNode(2), maxNode(4, 3)}, 5},
		{"u0 s u1 imax u0 s u1 imax max", []impl.Node{maxNode(3, 3)}, 4},
		{"u0 u2 max u0 u2 max imax", []impl.Node{paramNode(2), maxNode(0, 4), imaxNode(5, 5)}, 6},
		{"0 s u3 max", []impl.Node{zeroNode(), succNode(4), paramNode(3), maxNode(5, 6)}, 7},
	} {
		list, at := putLevel(t, base, readLevel(t, x.text))
		if want := slices.Concat(base, x.added); !slices.Equal(list, want) || at != x.at {
			t.Errorf("%s: %v, %d, not %v, %d", x.text, list, at, want, x.at)
		}
	}
}

func TestLevelsThatAreNotValidAreNotPut(t *testing.T) {
	for _, list := range [][]impl.Node{nil, {zeroNode()}, {paramNode(1), zeroNode(), succNode(0)}, chain(1, 100), chain(1, 200), doubling(200, maxNode)} {
		for _, l := range badLevels() {
			refusedPut(t, list, l)
		}
		refusedPut(t, list, make([]impl.Tok, 100000))
	}
}

func TestIndicesThatHaveNoNode(t *testing.T) {
	for _, list := range [][]impl.Node{{zeroNode()}, {paramNode(1), zeroNode(), succNode(0)}, chain(1, 199), chain(1, 200)} {
		n := len(list)
		for _, i := range []int{-1, -2, -n, n, n + 1, 2 * n, 256, 1 << 32, math.MaxInt, math.MinInt} {
			notANode(t, list, i)
		}
		for _, i := range []int{0, n - 1} {
			if parts := impl.ArenaParts(list, i); !slices.Equal(parts, expectedParts(list, i)) {
				t.Errorf("ArenaParts(%v, %d) = %v", list, i, parts)
			}
			evalNode(t, list, i, zeroEnv())
			checkKeep(t, list, i)
		}
	}
	if l, ok := impl.ArenaLevel([]impl.Node{paramNode(1), zeroNode(), succNode(0)}, 2); !ok || impl.LevelText(l) != "u1 s" {
		t.Error(l, ok)
	}
}

// writesOut checks that the level of a node has so many tokens.
func writesOut(t *testing.T, list []impl.Node, i int, tokens int) {
	t.Helper()
	l, ok := impl.ArenaLevel(list, i)
	if tokens <= 24 && (!ok || len(l) != tokens || treeOf(l) == nil) || tokens > 24 && (ok || len(l) != 0) {
		t.Errorf("ArenaLevel(%v, %d) = %v, %v, and has %d tokens", list, i, l, ok, tokens)
	}
}

func TestLevelsOfMaxLevelTokens(t *testing.T) {
	list := chain(1, 60)
	for i := range list {
		writesOut(t, list, i, i+1)
	}
	for _, join := range []func(a, b int) impl.Node{maxNode, imaxNode} {
		for a := range 25 {
			for b := range 25 {
				joined := append(slices.Clone(list), join(a, b))
				writesOut(t, joined, 60, a+b+3)
				writesOut(t, append(joined, succNode(60)), 61, a+b+4)
			}
		}
		twice := doubling(40, join)
		for i, tokens := range []int{1, 3, 7, 15, 31, 63, 127} {
			writesOut(t, twice, i, tokens)
		}
	}
	if l, ok := impl.ArenaLevel(list, 23); !ok || !slices.Equal(l, tower(24)) {
		t.Error(l, ok)
	}
}

// withChain appends n successors, each of the one before.
func withChain(list []impl.Node, n int) []impl.Node {
	for range n {
		list = append(list, succNode(len(list)-1))
	}
	return list
}

// After 64 steps the number of tokens no longer fits into an int, and becomes
// small again where it wraps around.
func TestLevelsFarTooLongToWriteOut(t *testing.T) {
	env := []int{7, 0, 0, 0, 0}
	for _, join := range []func(a, b int) impl.Node{maxNode, imaxNode} {
		list := doubling(200, join)
		for i := 4; i < 200; i++ {
			writesOut(t, list, i, 25)
			if v := evalNode(t, list, i, env); v != 7 {
				t.Fatalf("node %d is %d", i, v)
			}
			if v := evalNode(t, list, i, zeroEnv()); v != 0 {
				t.Fatalf("node %d is %d", i, v)
			}
		}
		for _, steps := range []int{8, 16, 31, 32, 33, 62, 63, 64, 65, 66} {
			list := withChain(doubling(steps, join), 60)
			for i := 4; i < len(list); i++ {
				writesOut(t, list, i, 25)
			}
			if v := evalNode(t, list, steps+59, env); v != 67 {
				t.Fatal(v)
			}
		}
	}
	list := stairs(200)
	for i := range 200 {
		if v := evalNode(t, list, i, env); v != 7+(i+1)/2 {
			t.Fatalf("node %d is %d", i, v)
		}
	}
	if v := evalNode(t, chain(0, 200), 199, []int{1000, 0, 0, 0, 0}); v != 1199 {
		t.Error(v)
	}
}

func TestEnvsOfArenas(t *testing.T) {
	lists := [][]impl.Node{{zeroNode()}, {paramNode(0), paramNode(4), maxNode(0, 1)}, doubling(200, maxNode)}
	for _, list := range lists {
		for _, env := range append(badEnvs(), []int{}, []int{1}, []int{1000, 1000, 1000, 1000, 1001}, []int{-1, 0, 0, 0, 0}) {
			for _, i := range []int{0, len(list) - 1, len(list), -1} {
				if v, ok := impl.ArenaEval(list, i, env); ok || v != 0 {
					t.Errorf("ArenaEval(%v, %d, %v) = %d, %v", list, i, env, v, ok)
				}
			}
		}
	}
	env := []int{1000, 0, 1000, 3, 999}
	for p, want := range env {
		if v := evalNode(t, []impl.Node{paramNode(p)}, 0, env); v != want {
			t.Errorf("u%d is %d", p, v)
		}
	}
}

func TestPartsOfArenas(t *testing.T) {
	list := []impl.Node{zeroNode(), paramNode(0), succNode(1), paramNode(1), maxNode(2, 3), succNode(0), imaxNode(4, 1), maxNode(4, 4)}
	for i, want := range [][]int{{0}, {1}, {1, 2}, {3}, {1, 2, 3, 4}, {0, 5}, {1, 2, 3, 4, 6}, {1, 2, 3, 4, 7}} {
		if parts := impl.ArenaParts(list, i); !slices.Equal(parts, want) {
			t.Errorf("ArenaParts(%d) = %v, not %v", i, parts, want)
		}
	}
}

func TestRootsOfArenas(t *testing.T) {
	list := []impl.Node{zeroNode(), paramNode(0), succNode(1), paramNode(1), maxNode(2, 3), succNode(0), imaxNode(3, 2)}
	for _, x := range []struct {
		roots []int
		nodes []impl.Node
		at    []int
	}{
		{nil, nil, nil},
		{[]int{}, nil, nil},
		{[]int{0}, []impl.Node{zeroNode()}, []int{0}},
		{[]int{3}, []impl.Node{paramNode(1)}, []int{0}},
		// A root twice.
		{[]int{3, 3, 3}, []impl.Node{paramNode(1)}, []int{0, 0, 0}},
		{[]int{2, 0, 2}, []impl.Node{zeroNode(), paramNode(0), succNode(1)}, []int{2, 0, 2}},
		// In descending order.
		{[]int{5, 3, 0}, []impl.Node{zeroNode(), paramNode(1), succNode(0)}, []int{2, 1, 0}},
		{[]int{6, 5, 4, 3, 2, 1, 0}, list, []int{6, 5, 4, 3, 2, 1, 0}},
		// A root that is part of another one.
		{[]int{4, 2}, []impl.Node{paramNode(0), succNode(0), paramNode(1), maxNode(1, 2)}, []int{3, 1}},
		{[]int{1, 4}, []impl.Node{paramNode(0), succNode(0), paramNode(1), maxNode(1, 2)}, []int{0, 3}},
		{[]int{6, 2}, []impl.Node{paramNode(0), succNode(0), paramNode(1), imaxNode(2, 1)}, []int{3, 1}},
		// Two roots that share a part.
		{[]int{6, 4}, []impl.Node{paramNode(0), succNode(0), paramNode(1), maxNode(1, 2), imaxNode(2, 1)}, []int{4, 3}},
	} {
		nodes, at := keepRoots(t, list, x.roots...)
		if !slices.Equal(nodes, x.nodes) || !slices.Equal(at, x.at) {
			t.Errorf("ArenaKeep(%v) = %v, %v, not %v, %v", x.roots, nodes, at, x.nodes, x.at)
		}
	}
	for _, bad := range []int{-1, 7, 8, -7, 200, math.MaxInt, math.MinInt} {
		for _, roots := range [][]int{{bad}, {0, bad}, {bad, 0}, {0, 1, bad, 2}, {6, bad, bad}, {bad, bad}} {
			refusedKeep(t, list, roots...)
		}
	}
	many := slices.Repeat([]int{4, 2}, 50000)
	nodes, at := keepRoots(t, list, many...)
	if len(nodes) != 4 || at[0] != 3 || at[1] != 1 || at[99999] != 1 {
		t.Error(nodes, len(at))
	}
	refusedKeep(t, list, append(many, 7)...)
}

// Operands move down, some of them to the index 0, and a -1 stays what it is.
func TestIndicesOfWhatIsKept(t *testing.T) {
	list := append([]impl.Node{zeroNode(), paramNode(4)}, paramNode(2), succNode(2), maxNode(3, 2), imaxNode(2, 4), succNode(5))
	for _, x := range []struct {
		root int
		want []impl.Node
	}{
		{2, []impl.Node{paramNode(2)}},
		{3, []impl.Node{paramNode(2), succNode(0)}},
		{4, []impl.Node{paramNode(2), succNode(0), maxNode(1, 0)}},
		{5, []impl.Node{paramNode(2), succNode(0), maxNode(1, 0), imaxNode(0, 2)}},
		{6, []impl.Node{paramNode(2), succNode(0), maxNode(1, 0), imaxNode(0, 2), succNode(3)}},
	} {
		nodes, at := keepRoots(t, list, x.root)
		if !slices.Equal(nodes, x.want) || at[0] != len(x.want)-1 {
			t.Errorf("root %d: %v, %v", x.root, nodes, at)
		}
	}
}

// within fails if the work takes longer than any reasonable way of doing it.
func within(t *testing.T, limit time.Duration, work func()) {
	t.Helper()
	done := make(chan bool)
	go func() {
		work()
		close(done)
	}()
	select {
	case <-done:
	case <-time.After(limit):
		t.Fatalf("not done after %v", limit)
	}
}

func TestArenasReturnInGoodTime(t *testing.T) {
	lists := [][]impl.Node{doubling(200, maxNode), doubling(200, imaxNode), stairs(200), chain(0, 200), chosenArena(3, 200)}
	within(t, time.Minute, func() {
		for _, list := range lists {
			for i := range list {
				impl.ArenaLevel(list, i)
				impl.ArenaEval(list, i, []int{5, 4, 3, 2, 1})
				impl.ArenaParts(list, i)
				impl.ArenaKeep(list, []int{i, 0, i})
			}
			impl.ArenaKeep(list, indicesOf(list))
			impl.ArenaPut(list, tower(24))
		}
		huge := chain(0, 1000000)
		impl.ArenaOk(huge)
		impl.ArenaPut(huge, tower(24))
		impl.ArenaKeep(huge, indicesOf(huge))
		impl.ArenaKeep(huge[:200], indicesOf(huge))
		impl.ArenaKeep(huge[:200], make([]int, 1000000))
	})
}
