package tests

import (
	"slices"
	"sync"
	"testing"

	"loop.example/g00744/impl"
)

func zeroNode() impl.Node         { return impl.Node{Op: impl.OpZero, A: -1, B: -1} }
func paramNode(p int) impl.Node   { return impl.Node{Op: impl.OpParam, N: p, A: -1, B: -1} }
func succNode(b int) impl.Node    { return impl.Node{Op: impl.OpSucc, A: -1, B: b} }
func maxNode(a, b int) impl.Node  { return impl.Node{Op: impl.OpMax, A: a, B: b} }
func imaxNode(a, b int) impl.Node { return impl.Node{Op: impl.OpImax, A: a, B: b} }

// isNode is what the chapter calls a valid node at this place.
func isNode(n impl.Node, at int) bool {
	before := func(k int) bool { return 0 <= k && k < at }
	switch n.Op {
	case impl.OpZero:
		return n.N == 0 && n.A == -1 && n.B == -1
	case impl.OpParam:
		return isParam(n.N) && n.A == -1 && n.B == -1
	case impl.OpSucc:
		return n.N == 0 && n.A == -1 && before(n.B)
	case impl.OpMax, impl.OpImax:
		return n.N == 0 && before(n.A) && before(n.B)
	}
	return false
}

func isArena(list []impl.Node) bool {
	if len(list) > 200 {
		return false
	}
	for i, n := range list {
		if !isNode(n, i) || slices.Contains(list[:i], n) {
			return false
		}
	}
	return true
}

func operandsOf(n impl.Node) []int {
	switch n.Op {
	case impl.OpSucc:
		return []int{n.B}
	case impl.OpMax, impl.OpImax:
		return []int{n.A, n.B}
	}
	return nil
}

// expectedPut goes through the tree of a level, which was read from the last
// token backwards, and looks for each node in the whole list.
func expectedPut(list []impl.Node, l []impl.Tok) ([]impl.Node, int) {
	return treeOf(l).putInto(slices.Clone(list))
}

func (x *tree) putInto(list []impl.Node) ([]impl.Node, int) {
	n := impl.Node{Op: x.tok.Op, N: x.tok.N, A: -1, B: -1}
	if x.a != nil {
		list, n.A = x.a.putInto(list)
	}
	if x.b != nil {
		list, n.B = x.b.putInto(list)
	}
	if i := slices.Index(list, n); i >= 0 {
		return list, i
	}
	return append(list, n), len(list)
}

// expectedLevel writes the level from its last token backwards, and gives up
// when it has too many.
func expectedLevel(list []impl.Node, i int) ([]impl.Tok, bool) {
	var out []impl.Tok
	pending := []int{i}
	for len(pending) > 0 {
		n := list[pending[len(pending)-1]]
		pending = append(pending[:len(pending)-1], operandsOf(n)...)
		out = append(out, impl.Tok{Op: n.Op, N: n.N})
		if len(out) > 24 {
			return nil, false
		}
	}
	slices.Reverse(out)
	return out, true
}

// expectedValue looks into known for what was found before.
func expectedValue(list []impl.Node, i int, env []int, known map[int]int) int {
	if v, ok := known[i]; ok {
		return v
	}
	var v []int
	for _, k := range operandsOf(list[i]) {
		v = append(v, expectedValue(list, k, env, known))
	}
	known[i] = 0
	switch list[i].Op {
	case impl.OpParam:
		known[i] = env[list[i].N]
	case impl.OpSucc:
		known[i] = v[0] + 1
	case impl.OpMax:
		known[i] = max(v[0], v[1])
	case impl.OpImax:
		if v[1] > 0 {
			known[i] = max(v[0], v[1])
		}
	}
	return known[i]
}

// reached adds to seen what can be reached from the node, and the node itself.
func reached(list []impl.Node, i int, seen map[int]bool) {
	if seen[i] {
		return
	}
	seen[i] = true
	for _, k := range operandsOf(list[i]) {
		reached(list, k, seen)
	}
}

func ascending(seen map[int]bool) []int {
	var out []int
	for i := range seen {
		out = append(out, i)
	}
	slices.Sort(out)
	return out
}

func expectedParts(list []impl.Node, i int) []int {
	seen := map[int]bool{}
	reached(list, i, seen)
	return ascending(seen)
}

func expectedKeep(list []impl.Node, roots []int) ([]impl.Node, []int) {
	seen := map[int]bool{}
	for _, r := range roots {
		reached(list, r, seen)
	}
	old := ascending(seen)
	var nodes []impl.Node
	for _, i := range old {
		n := list[i]
		if n.A != -1 {
			n.A = slices.Index(old, n.A)
		}
		if n.B != -1 {
			n.B = slices.Index(old, n.B)
		}
		nodes = append(nodes, n)
	}
	var at []int
	for _, r := range roots {
		at = append(at, slices.Index(old, r))
	}
	return nodes, at
}

func putLevel(t *testing.T, list []impl.Node, l []impl.Tok) ([]impl.Node, int) {
	t.Helper()
	out, at, ok := impl.ArenaPut(list, l)
	if !ok {
		t.Fatalf("ArenaPut(%v, %v) failed", list, l)
	}
	return out, at
}

// arenaOf puts levels, given by their texts, into an arena of no nodes, and
// returns it with their indices.
func arenaOf(t *testing.T, texts ...string) ([]impl.Node, []int) {
	t.Helper()
	var list []impl.Node
	var at []int
	for _, l := range readLevels(t, texts...) {
		next, i := putLevel(t, list, l)
		list, at = next, append(at, i)
	}
	return list, at
}

func evalNode(t *testing.T, list []impl.Node, i int, env []int) int {
	t.Helper()
	v, ok := impl.ArenaEval(list, i, env)
	if !ok {
		t.Fatalf("ArenaEval(%v, %d, %v) failed", list, i, env)
	}
	return v
}

func keepRoots(t *testing.T, list []impl.Node, roots ...int) ([]impl.Node, []int) {
	t.Helper()
	nodes, at, ok := impl.ArenaKeep(list, roots)
	if !ok || len(at) != len(roots) {
		t.Fatalf("ArenaKeep(%v, %v) = %v, %v, %v", list, roots, nodes, at, ok)
	}
	return nodes, at
}

func refusedPut(t *testing.T, list []impl.Node, l []impl.Tok) {
	t.Helper()
	if out, at, ok := impl.ArenaPut(list, l); ok || at != 0 || len(out) != 0 {
		t.Errorf("ArenaPut(%v, %v) = %v, %d, %v", list, l, out, at, ok)
	}
}

func refusedKeep(t *testing.T, list []impl.Node, roots ...int) {
	t.Helper()
	if nodes, at, ok := impl.ArenaKeep(list, roots); ok || len(nodes) != 0 || len(at) != 0 {
		t.Errorf("ArenaKeep(%v, %v) = %v, %v, %v", list, roots, nodes, at, ok)
	}
}

// notANode checks what every function returns for an index that has no node, or
// for a list that is not valid.
func notANode(t *testing.T, list []impl.Node, i int) {
	t.Helper()
	l, ok := impl.ArenaLevel(list, i)
	refused(t, "ArenaLevel", l, ok)
	for _, env := range [][]int{zeroEnv(), {1, 2, 3, 4, 5}} {
		if v, ok := impl.ArenaEval(list, i, env); ok || v != 0 {
			t.Errorf("ArenaEval(%v, %d, %v) = %d, %v", list, i, env, v, ok)
		}
	}
	if parts := impl.ArenaParts(list, i); len(parts) != 0 {
		t.Errorf("ArenaParts(%v, %d) = %v", list, i, parts)
	}
	refusedKeep(t, list, i)
	refusedKeep(t, list, 0, i)
	refusedKeep(t, list, i, 0)
}

func notAnArena(t *testing.T, list []impl.Node) {
	t.Helper()
	if impl.ArenaOk(list) {
		t.Errorf("ArenaOk(%v)", list)
	}
	for _, l := range readLevels(t, "0", "u0", "u0 s") {
		refusedPut(t, list, l)
	}
	refusedPut(t, list, nil)
	refusedKeep(t, list)
	for _, i := range []int{-1, 0, 1, 2, 3, len(list) - 1, len(list)} {
		notANode(t, list, i)
	}
}

// chain is a parameter and n - 1 successors, each of the one before.
func chain(p int, n int) []impl.Node {
	out := []impl.Node{paramNode(p)}
	for len(out) < n {
		out = append(out, succNode(len(out)-1))
	}
	return out
}

// doubling is u0 and n - 1 nodes that each use the one before twice, so that
// the level of each has more than twice the tokens of the one before.
func doubling(n int, join func(a, b int) impl.Node) []impl.Node {
	out := []impl.Node{paramNode(0)}
	for len(out) < n {
		out = append(out, join(len(out)-1, len(out)-1))
	}
	return out
}

// stairs is a doubling with a successor after each node.
func stairs(n int) []impl.Node {
	out := []impl.Node{paramNode(0)}
	for len(out) < n {
		if len(out)%2 == 1 {
			out = append(out, succNode(len(out)-1))
		} else {
			out = append(out, imaxNode(len(out)-1, len(out)-1))
		}
	}
	return out
}

// operand is mostly one of the nodes that were added last.
func (c *chooser) operand(n int) int {
	if c.below(3) == 0 {
		return c.below(n)
	}
	return n - 1 - c.below(min(n, 6))
}

func (c *chooser) node(n int) impl.Node {
	if n == 0 || c.below(8) == 0 {
		return [...]impl.Node{zeroNode(), paramNode(0), paramNode(1), paramNode(2), paramNode(3), paramNode(4)}[c.below(6)]
	}
	switch c.below(5) {
	case 0, 1:
		return succNode(c.operand(n))
	case 2:
		return imaxNode(c.operand(n), c.operand(n))
	}
	return maxNode(c.operand(n), c.operand(n))
}

func chosenArena(seed int, n int) []impl.Node {
	c := chooser(seed*6311 + 5)
	var out []impl.Node
	for len(out) < n {
		if x := c.node(len(out)); !slices.Contains(out, x) {
			out = append(out, x)
		}
	}
	return out
}

// arenaLevels are the levels that the tests put: those that share much with one
// another, and long ones.
func arenaLevels(t *testing.T) [][]impl.Tok {
	t.Helper()
	return slices.Concat(shortLevels(4), longLevels(t), underLevels())
}

// levelsInOne has the nodes of as many of the levels as there is room for.
func levelsInOne(levels [][]impl.Tok) []impl.Node {
	var list []impl.Node
	for _, l := range levels {
		if next, _ := expectedPut(list, l); len(next) <= 200 {
			list = next
		}
	}
	return list
}

var arenasOnce sync.Once
var allArenas [][]impl.Node

// arenas are valid ones of many kinds, with no nodes up to MaxArena.
func arenas(t *testing.T) [][]impl.Node {
	t.Helper()
	arenasOnce.Do(func() {
		allArenas = [][]impl.Node{
			nil, {zeroNode()}, {paramNode(4)}, {paramNode(4), paramNode(3), paramNode(2), paramNode(1), paramNode(0), zeroNode()},
			chain(0, 200), chain(4, 30), doubling(200, maxNode), doubling(60, imaxNode), stairs(200),
			levelsInOne(longLevels(t)), levelsInOne(shortLevels(4)), levelsInOne(underLevels()), levelsInOne(arenaLevels(t)),
		}
		for _, l := range longLevels(t) {
			allArenas = append(allArenas, levelsInOne([][]impl.Tok{l}))
		}
		for seed := range 40 {
			allArenas = append(allArenas, chosenArena(seed, []int{2, 3, 5, 8, 13, 25, 60, 120, 199, 200}[seed%10]))
		}
	})
	return allArenas
}

// arenaEnvs distinguish the parameters and where each is 0.
func arenaEnvs() [][]int {
	return append(envsOver(0, 3), []int{1, 2, 3, 4, 5}, []int{9, 0, 7, 0, 1}, []int{0, 1, 0, 2, 0}, []int{1000, 999, 998, 997, 996}, []int{1000, 1000, 1000, 1000, 1000})
}
