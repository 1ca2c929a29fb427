package tests

import (
	"math"
	"slices"
	"testing"

	"loop.example/g00564/impl"
)

// The tests below find paths, meets and leaps by single steps to the parent, from the document's words.

// exampleTree is the tree of the document's examples.
func exampleTree() []impl.Block {
	return []impl.Block{{Parent: -1}, {Parent: 0, Slot: 1}, {Parent: 0, Slot: 2}, {Parent: 1, Slot: 2}, {Parent: 3, Slot: 4}}
}

// treeBy returns a tree of many blocks whose Slots grow by 1, 2 and 3 in turn; parentOf is asked for every block but the first.
func treeBy(many int, parentOf func(b int) int) []impl.Block {
	tree := []impl.Block{{Parent: -1}}
	for b := 1; b < many; b++ {
		parent := parentOf(b)
		tree = append(tree, impl.Block{Parent: parent, Slot: tree[parent].Slot + b%3 + 1})
	}
	return tree
}

func pathTree(many int) []impl.Block {
	return treeBy(many, func(b int) int { return b - 1 })
}

func starTree(many int) []impl.Block {
	return treeBy(many, func(int) int { return 0 })
}

// armedTree is a path of MaxBlocks blocks but for one block, which leaves it at an earlier one and continues as a second arm.
func armedTree(fork int, arm int) []impl.Block {
	return treeBy(impl.MaxBlocks, func(b int) int {
		if b == arm {
			return fork
		}
		return b - 1
	})
}

// drawnTree takes each parent from a row of numbers that the seed begins.
func drawnTree(many int, seed int) []impl.Block {
	return treeBy(many, func(b int) int {
		seed = 17364 * seed % 65521
		return seed % b
	})
}

// smallTrees returns every tree of up to five blocks.
func smallTrees() [][]impl.Block {
	trees := [][]impl.Block{pathTree(1)}
	for at := 0; at < len(trees); at++ {
		tree := trees[at]
		for parent := range tree {
			if len(tree) < 5 {
				child := impl.Block{Parent: parent, Slot: tree[parent].Slot + 2}
				trees = append(trees, append(slices.Clone(tree), child))
			}
		}
	}
	return trees
}

func someTrees() [][]impl.Block {
	trees := append(smallTrees(), exampleTree(),
		pathTree(16), pathTree(17), pathTree(impl.MaxBlocks), starTree(6), starTree(impl.MaxBlocks),
		treeBy(impl.MaxBlocks, func(b int) int { return (b - 1) / 2 }),
		treeBy(impl.MaxBlocks, func(b int) int { return max(b-2, 0) }),
		treeBy(impl.MaxBlocks, func(b int) int { return max(b-3, 0) }),
		treeBy(impl.MaxBlocks, func(b int) int { return max(b-1-b%2, 0) }),
		armedTree(4, 9), armedTree(15, 20), armedTree(0, 23),
	)
	for seed := 1; seed <= 20; seed++ {
		trees = append(trees, drawnTree(impl.MaxBlocks-seed%4, seed))
	}
	return trees
}

func plainWay(tree []impl.Block, b int) []int {
	if b == 0 {
		return []int{0}
	}
	return append(plainWay(tree, tree[b].Parent), b)
}

func plainAbove(tree []impl.Block, a int, b int) bool {
	return slices.Contains(plainWay(tree, b), a)
}

// plainMeet looks at every block of the tree and keeps the deepest one that is above both.
func plainMeet(tree []impl.Block, a int, b int) int {
	meet := 0
	for c := range tree {
		if plainAbove(tree, c, a) && plainAbove(tree, c, b) && len(plainWay(tree, c)) > len(plainWay(tree, meet)) {
			meet = c
		}
	}
	return meet
}

// plainLeaps steps to the parent one by one and keeps the blocks that 1, 2, 4, .. steps lead to.
func plainLeaps(tree []impl.Block, b int) []int {
	var leaps []int
	steps, kept := 0, 1
	for b != 0 {
		b = tree[b].Parent
		steps++
		if steps == kept {
			leaps = append(leaps, b)
			kept += kept
		}
	}
	return leaps
}

// badTree is a tree that is not valid, with the reason.
type badTree struct {
	why  string
	tree []impl.Block
}

// withBlock returns the tree with the block b replaced.
func withBlock(tree []impl.Block, b int, parent int, slot int) []impl.Block {
	changed := slices.Clone(tree)
	changed[b] = impl.Block{Parent: parent, Slot: slot}
	return changed
}

// badTrees are valid trees in which one thing has been changed.
func badTrees() []badTree {
	tr := exampleTree()
	path := pathTree(impl.MaxBlocks)
	end := len(path) - 1
	bad := []badTree{
		{"no block", nil},
		{"no block", []impl.Block{}},
		{"too many blocks in a path", pathTree(impl.MaxBlocks + 1)},
		{"too many blocks in a star", starTree(impl.MaxBlocks + 1)},
		{"far too many blocks", starTree(200)},
		{"the genesis block alone, all zero", []impl.Block{{}}},
		{"the genesis block alone with Slot 1", []impl.Block{{Parent: -1, Slot: 1}}},
		{"the last block its own parent", withBlock(path, end, end, path[end].Slot)},
		{"the last block without a parent", withBlock(path, end, -1, path[end].Slot)},
		{"the last block in the slot of its parent", withBlock(path, end, end-1, path[end-1].Slot)},
		{"the last block after MaxSlot", withBlock(path, end, end-1, impl.MaxSlot+1)},
		{"a block after a parent in MaxSlot", []impl.Block{{Parent: -1}, {Parent: 0, Slot: impl.MaxSlot}, {Parent: 1, Slot: impl.MaxSlot + 1}}},
		{"a later block not after its parent", withBlock(tr, 1, 0, 2)},
	}
	for _, parent := range []int{0, 1, -2, 4, 5, math.MaxInt, math.MinInt} {
		bad = append(bad, badTree{"a genesis block with a parent", withBlock(tr, 0, parent, 0)})
	}
	for _, slot := range []int{1, -1, impl.MaxSlot, math.MaxInt, math.MinInt} {
		bad = append(bad, badTree{"a genesis block not in slot 0", withBlock(tr, 0, -1, slot)})
	}
	for _, parent := range []int{-1, -2, -5, 3, 4, 5, 6, impl.MaxBlocks, math.MaxInt, math.MinInt} {
		bad = append(bad, badTree{"a block without an earlier parent", withBlock(tr, 3, parent, 3)})
	}
	for _, slot := range []int{1, 0, -1, -4, impl.MaxSlot + 1, impl.MaxSlot + 2, math.MaxInt, math.MinInt} {
		bad = append(bad, badTree{"a block not after its parent or after MaxSlot", withBlock(tr, 3, 1, slot)})
	}
	for _, slot := range []int{0, -1, impl.MaxSlot + 1, math.MaxInt, math.MinInt} {
		bad = append(bad, badTree{"a child of the genesis block in no slot", withBlock(tr, 2, 0, slot)})
	}
	return bad
}

// badBlocks are no blocks of the tree.
func badBlocks(tree []impl.Block) []int {
	n := len(tree)
	return []int{-1, -2, -n, n, n + 1, n + 2, impl.MaxBlocks, impl.MaxBlocks + 1, math.MaxInt, math.MinInt}
}

func TestTreeConstants(t *testing.T) {
	if impl.MaxBlocks != 24 {
		t.Error(impl.MaxBlocks)
	}
}

func TestTreeExamples(t *testing.T) {
	tr := exampleTree()
	if l, ok := impl.WayTo(tr, 4); !sameList(l, []int{0, 1, 3, 4}) || !ok {
		t.Error("WayTo", l, ok)
	}
	if n, ok := impl.DepthOf(tr, 4); n != 3 || !ok {
		t.Error("DepthOf", n, ok)
	}
	if b, ok := impl.AncestorOf(tr, 4, 2); b != 1 || !ok {
		t.Error("AncestorOf", b, ok)
	}
	if is, ok := impl.IsAbove(tr, 1, 4); !is || !ok {
		t.Error("IsAbove", is, ok)
	}
	if b, ok := impl.MeetOf(tr, 4, 2); b != 0 || !ok {
		t.Error("MeetOf", b, ok)
	}
	if b, ok := impl.HeadAt(tr, 4, 3); b != 3 || !ok {
		t.Error("HeadAt", b, ok)
	}
	if l, ok := impl.LeavesOf(tr); !sameList(l, []int{2, 4}) || !ok {
		t.Error("LeavesOf", l, ok)
	}
	if l, ok := impl.LeapsOf(tr); !sameLists(l, [][]int{{}, {0}, {0}, {1, 0}, {3, 1}}) || !ok {
		t.Error("LeapsOf", l, ok)
	}
}

func TestGoodTreeOfValidTrees(t *testing.T) {
	for _, tree := range someTrees() {
		if !impl.GoodTree(tree) {
			t.Errorf("GoodTree(%v) is false", tree)
		}
	}
}

func TestGoodTreeAtTheEnds(t *testing.T) {
	cases := []struct {
		name string
		tree []impl.Block
		want bool
	}{
		{"one block", []impl.Block{{Parent: -1, Slot: 0}}, true},
		{"MaxBlocks blocks", starTree(impl.MaxBlocks), true},
		{"one block more", starTree(impl.MaxBlocks + 1), false},
		{"Slot 1", []impl.Block{{Parent: -1}, {Parent: 0, Slot: 1}}, true},
		{"Slot 0", []impl.Block{{Parent: -1}, {Parent: 0, Slot: 0}}, false},
		{"Slot MaxSlot", []impl.Block{{Parent: -1}, {Parent: 0, Slot: impl.MaxSlot}}, true},
		{"Slot MaxSlot + 1", []impl.Block{{Parent: -1}, {Parent: 0, Slot: impl.MaxSlot + 1}}, false},
		{"the Slot of the parent", []impl.Block{{Parent: -1}, {Parent: 0, Slot: 7}, {Parent: 1, Slot: 7}}, false},
		{"one Slot more", []impl.Block{{Parent: -1}, {Parent: 0, Slot: 7}, {Parent: 1, Slot: 8}}, true},
		{"one Slot less", []impl.Block{{Parent: -1}, {Parent: 0, Slot: 7}, {Parent: 1, Slot: 6}}, false},
		{"the Slot of a block beside it", []impl.Block{{Parent: -1}, {Parent: 0, Slot: 7}, {Parent: 0, Slot: 7}}, true},
		{"before the Slot of a block beside it", []impl.Block{{Parent: -1}, {Parent: 0, Slot: 7}, {Parent: 0, Slot: 1}}, true},
		{"up to MaxSlot in two steps", []impl.Block{{Parent: -1}, {Parent: 0, Slot: impl.MaxSlot - 1}, {Parent: 1, Slot: impl.MaxSlot}}, true},
	}
	for _, c := range cases {
		if is := impl.GoodTree(c.tree); is != c.want {
			t.Errorf("%s: GoodTree(%v) = %v, want %v", c.name, c.tree, is, c.want)
		}
	}
}

func TestGoodTreeOfInvalidTrees(t *testing.T) {
	for _, bad := range badTrees() {
		if impl.GoodTree(bad.tree) {
			t.Errorf("GoodTree(%v) is true, but it has %s", bad.tree, bad.why)
		}
	}
}

// TestPromise3Ways: every path begins with the genesis block, ends with its block, and goes from parent to child.
func TestPromise3Ways(t *testing.T) {
	for _, tree := range someTrees() {
		for b := range tree {
			way, ok := impl.WayTo(tree, b)
			if !ok || len(way) == 0 || way[0] != 0 || way[len(way)-1] != b {
				t.Fatalf("WayTo(%v, %d) = %v, %v", tree, b, way, ok)
			}
			for i := 1; i < len(way); i++ {
				if tree[way[i]].Parent != way[i-1] {
					t.Fatalf("WayTo(%v, %d) = %v, where %d is not the parent of %d", tree, b, way, way[i-1], way[i])
				}
			}
			if !sameList(way, plainWay(tree, b)) {
				t.Fatalf("WayTo(%v, %d) = %v, want %v", tree, b, way, plainWay(tree, b))
			}
			if n, ok := impl.DepthOf(tree, b); n != len(way)-1 || !ok {
				t.Fatalf("DepthOf(%v, %d) = %d, %v, want %d", tree, b, n, ok, len(way)-1)
			}
		}
	}
}

// TestPromise3Meets has every pair of blocks, in both orders.
func TestPromise3Meets(t *testing.T) {
	for _, tree := range someTrees() {
		for a := range tree {
			for b := range tree {
				if is, ok := impl.IsAbove(tree, a, b); is != plainAbove(tree, a, b) || !ok {
					t.Fatalf("IsAbove(%v, %d, %d) = %v, %v", tree, a, b, is, ok)
				}
				want := plainMeet(tree, a, b)
				if c, ok := impl.MeetOf(tree, a, b); c != want || !ok {
					t.Fatalf("MeetOf(%v, %d, %d) = %d, %v, want %d", tree, a, b, c, ok, want)
				}
			}
		}
	}
}

// TestPromise3MeetIsDeepest uses the package alone: the meet is above both, and no deeper block is.
func TestPromise3MeetIsDeepest(t *testing.T) {
	tree := drawnTree(impl.MaxBlocks, 9)
	above := func(a int, b int) bool {
		is, ok := impl.IsAbove(tree, a, b)
		return is && ok
	}
	for a := range tree {
		for b := range tree {
			meet, _ := impl.MeetOf(tree, a, b)
			back, _ := impl.MeetOf(tree, b, a)
			if meet != back || !above(meet, a) || !above(meet, b) {
				t.Fatalf("the meet of %d and %d is %d, that of %d and %d is %d", a, b, meet, b, a, back)
			}
			depth, _ := impl.DepthOf(tree, meet)
			for c := range tree {
				if deep, _ := impl.DepthOf(tree, c); deep > depth && above(c, a) && above(c, b) {
					t.Fatalf("the meet of %d and %d is %d, but %d is deeper", a, b, meet, c)
				}
			}
		}
	}
}

// TestPromise3MeetOnOnePath: the meet of a block and itself, or of a block and one above it, is that block.
func TestPromise3MeetOnOnePath(t *testing.T) {
	for _, tree := range someTrees() {
		for b := range tree {
			if is, ok := impl.IsAbove(tree, b, b); !is || !ok {
				t.Fatalf("IsAbove(%v, %d, %d) = %v, %v", tree, b, b, is, ok)
			}
			for _, a := range plainWay(tree, b) {
				if c, ok := impl.MeetOf(tree, a, b); c != a || !ok {
					t.Fatalf("MeetOf(%v, %d, %d) = %d, %v", tree, a, b, c, ok)
				}
				if c, ok := impl.MeetOf(tree, b, a); c != a || !ok {
					t.Fatalf("MeetOf(%v, %d, %d) = %d, %v", tree, b, a, c, ok)
				}
				if is, ok := impl.IsAbove(tree, b, a); is != (a == b) || !ok {
					t.Fatalf("IsAbove(%v, %d, %d) = %v, %v", tree, b, a, is, ok)
				}
			}
		}
	}
}

// TestMeetOfFarBlocks has two arms of equal length that leave the path at every depth.
func TestMeetOfFarBlocks(t *testing.T) {
	for fork := 0; fork < impl.MaxBlocks-2; fork++ {
		tree := treeBy(impl.MaxBlocks, func(b int) int {
			if b <= fork+1 {
				return b - 1
			}
			if b == fork+2 {
				return fork
			}
			return b - 2
		})
		if c, ok := impl.MeetOf(tree, impl.MaxBlocks-1, impl.MaxBlocks-2); c != fork || !ok {
			t.Errorf("the arms of %v meet in %d, %v, want %d", tree, c, ok, fork)
		}
	}
}

// TestAncestorOfEveryStep has every number of steps from 0 to the depth, and one step more.
func TestAncestorOfEveryStep(t *testing.T) {
	for _, tree := range someTrees() {
		for b := range tree {
			at := b
			depth := len(plainWay(tree, b)) - 1
			for up := 0; up <= depth; up++ {
				if c, ok := impl.AncestorOf(tree, b, up); c != at || !ok {
					t.Fatalf("AncestorOf(%v, %d, %d) = %d, %v, want %d", tree, b, up, c, ok, at)
				}
				at = tree[at].Parent
			}
			if c, ok := impl.AncestorOf(tree, b, depth+1); c != 0 || ok {
				t.Fatalf("AncestorOf(%v, %d, %d) = %d, %v", tree, b, depth+1, c, ok)
			}
		}
	}
}

// TestPromise3Leaps: the jump pointers lead where single steps do.
func TestPromise3Leaps(t *testing.T) {
	for _, tree := range someTrees() {
		leaps, ok := impl.LeapsOf(tree)
		if !ok || len(leaps) != len(tree) {
			t.Fatalf("LeapsOf(%v) = %v, %v", tree, leaps, ok)
		}
		for b, l := range leaps {
			if !sameList(l, plainLeaps(tree, b)) {
				t.Fatalf("LeapsOf(%v): %v for block %d, want %v", tree, l, b, plainLeaps(tree, b))
			}
		}
	}
}

// TestLeapsOfLongPath: the jump pointers agree with AncestorOf at every power of 2 up to the depth.
func TestLeapsOfLongPath(t *testing.T) {
	tree := pathTree(impl.MaxBlocks)
	leaps, ok := impl.LeapsOf(tree)
	if !ok || len(leaps) != impl.MaxBlocks {
		t.Fatal(leaps, ok)
	}
	for b, l := range leaps {
		var want []int
		for step := 1; step <= b; step *= 2 {
			c, ok := impl.AncestorOf(tree, b, step)
			if !ok || c != b-step {
				t.Errorf("AncestorOf(path, %d, %d) = %d, %v", b, step, c, ok)
			}
			want = append(want, c)
		}
		if !sameList(l, want) {
			t.Errorf("the jump pointers of block %d are %v, want %v", b, l, want)
		}
	}
	if len(leaps[0]) != 0 || len(leaps[15]) != 4 || len(leaps[16]) != 5 || !sameList(leaps[23], []int{22, 21, 19, 15, 7}) {
		t.Error(leaps)
	}
}

func TestHeadAtEverySlot(t *testing.T) {
	for _, tree := range someTrees() {
		for b := range tree {
			way := plainWay(tree, b)
			for slot := 0; slot <= tree[b].Slot+2; slot++ {
				want := 0
				for _, c := range way {
					if tree[c].Slot <= slot {
						want = c
					}
				}
				if c, ok := impl.HeadAt(tree, b, slot); c != want || !ok {
					t.Fatalf("HeadAt(%v, %d, %d) = %d, %v, want %d", tree, b, slot, c, ok, want)
				}
			}
		}
	}
}

// TestHeadAtTheEnds has slots just below, at and above the Slots on a path.
func TestHeadAtTheEnds(t *testing.T) {
	tree := []impl.Block{{Parent: -1}, {Parent: 0, Slot: 10}, {Parent: 1, Slot: 20}, {Parent: 1, Slot: 15}, {Parent: 2, Slot: impl.MaxSlot}}
	cases := []struct {
		b, slot, want int
		ok            bool
	}{
		{4, 0, 0, true}, {4, 9, 0, true}, {4, 10, 1, true}, {4, 11, 1, true}, {4, 15, 1, true},
		{4, 19, 1, true}, {4, 20, 2, true}, {4, 21, 2, true},
		{4, impl.MaxSlot - 1, 2, true}, {4, impl.MaxSlot, 4, true}, {4, impl.MaxSlot + 1, 4, true}, {4, math.MaxInt, 4, true},
		{3, 14, 1, true}, {3, 15, 3, true}, {3, 16, 3, true}, {3, 20, 3, true},
		{0, 0, 0, true}, {0, 1, 0, true}, {0, math.MaxInt, 0, true},
		{0, -1, 0, false}, {4, -1, 0, false}, {4, math.MinInt, 0, false},
	}
	for _, c := range cases {
		if b, ok := impl.HeadAt(tree, c.b, c.slot); b != c.want || ok != c.ok {
			t.Errorf("HeadAt(%v, %d, %d) = %d, %v, want %d, %v", tree, c.b, c.slot, b, ok, c.want, c.ok)
		}
	}
}

func TestLeavesOfShapes(t *testing.T) {
	var allButFirst []int
	for b := 1; b < impl.MaxBlocks; b++ {
		allButFirst = append(allButFirst, b)
	}
	cases := []struct {
		tree []impl.Block
		want []int
	}{
		{pathTree(1), []int{0}},
		{pathTree(2), []int{1}},
		{pathTree(impl.MaxBlocks), []int{impl.MaxBlocks - 1}},
		{starTree(impl.MaxBlocks), allButFirst},
		{treeBy(7, func(b int) int { return (b - 1) / 2 }), []int{3, 4, 5, 6}},
	}
	for _, c := range cases {
		if l, ok := impl.LeavesOf(c.tree); !sameList(l, c.want) || !ok {
			t.Errorf("LeavesOf(%v) = %v, %v, want %v", c.tree, l, ok, c.want)
		}
	}
}

// TestLeavesAreOnNoOtherWay: a leaf is on the path to itself alone, and every other block on that to another one.
func TestLeavesAreOnNoOtherWay(t *testing.T) {
	for _, tree := range someTrees() {
		leaves, ok := impl.LeavesOf(tree)
		var want []int
		for b := range tree {
			isLeaf := true
			for c := range tree {
				isLeaf = isLeaf && (c == b || !plainAbove(tree, b, c))
			}
			if isLeaf {
				want = append(want, b)
			}
		}
		if !sameList(leaves, want) || !ok {
			t.Fatalf("LeavesOf(%v) = %v, %v, want %v", tree, leaves, ok, want)
		}
	}
}

// checkBlocksRefused expects the zero result of every function that is given blocks.
func checkBlocksRefused(t *testing.T, tree []impl.Block, a int, b int) {
	t.Helper()
	if is, ok := impl.IsAbove(tree, a, b); is || ok {
		t.Errorf("IsAbove(%v, %d, %d) = %v, %v", tree, a, b, is, ok)
	}
	if c, ok := impl.MeetOf(tree, a, b); c != 0 || ok {
		t.Errorf("MeetOf(%v, %d, %d) = %d, %v", tree, a, b, c, ok)
	}
}

func checkBlockRefused(t *testing.T, tree []impl.Block, b int) {
	t.Helper()
	if n, ok := impl.DepthOf(tree, b); n != 0 || ok {
		t.Errorf("DepthOf(%v, %d) = %d, %v", tree, b, n, ok)
	}
	if l, ok := impl.WayTo(tree, b); len(l) != 0 || ok {
		t.Errorf("WayTo(%v, %d) = %v, %v", tree, b, l, ok)
	}
	for _, n := range []int{0, 1, 2, 3} {
		if c, ok := impl.AncestorOf(tree, b, n); c != 0 || ok {
			t.Errorf("AncestorOf(%v, %d, %d) = %d, %v", tree, b, n, c, ok)
		}
		if c, ok := impl.HeadAt(tree, b, n); c != 0 || ok {
			t.Errorf("HeadAt(%v, %d, %d) = %d, %v", tree, b, n, c, ok)
		}
	}
}

func TestPromise19InvalidTrees(t *testing.T) {
	for _, bad := range badTrees() {
		for _, b := range append(badBlocks(bad.tree), 0, 1, 2, 3, 4, 23) {
			checkBlockRefused(t, bad.tree, b)
			checkBlocksRefused(t, bad.tree, b, 0)
			checkBlocksRefused(t, bad.tree, 0, b)
			checkBlocksRefused(t, bad.tree, b, b)
		}
		if l, ok := impl.LeapsOf(bad.tree); len(l) != 0 || ok {
			t.Errorf("LeapsOf(%v) = %v, %v", bad.tree, l, ok)
		}
		if l, ok := impl.LeavesOf(bad.tree); len(l) != 0 || ok {
			t.Errorf("LeavesOf(%v) = %v, %v", bad.tree, l, ok)
		}
	}
}

func TestPromise19InvalidBlocks(t *testing.T) {
	for _, tree := range someTrees() {
		for _, b := range badBlocks(tree) {
			checkBlockRefused(t, tree, b)
			for _, other := range []int{0, len(tree) - 1, b} {
				checkBlocksRefused(t, tree, b, other)
				checkBlocksRefused(t, tree, other, b)
			}
		}
	}
}

func TestPromise19InvalidStepsAndSlots(t *testing.T) {
	for _, tree := range someTrees() {
		for b := range tree {
			depth := len(plainWay(tree, b)) - 1
			for _, up := range []int{-1, -2, -32, depth + 1, depth + 2, depth + 32, 64, 65, math.MaxInt, math.MinInt} {
				if c, ok := impl.AncestorOf(tree, b, up); c != 0 || ok {
					t.Errorf("AncestorOf(%v, %d, %d) = %d, %v", tree, b, up, c, ok)
				}
			}
			for _, slot := range []int{-1, -2, -impl.MaxSlot, math.MinInt} {
				if c, ok := impl.HeadAt(tree, b, slot); c != 0 || ok {
					t.Errorf("HeadAt(%v, %d, %d) = %d, %v", tree, b, slot, c, ok)
				}
			}
		}
	}
}

// spareBlock could stand behind any path with a free slot, so that a function that reads it returns something else.
func spareBlock(tree []impl.Block) impl.Block {
	return impl.Block{Parent: max(len(tree)-1, 0), Slot: impl.MaxSlot}
}

// TestPromise19BlocksBehindTheLength: a block behind the length of a tree is none of its blocks and no child of one.
func TestPromise19BlocksBehindTheLength(t *testing.T) {
	for _, plain := range someTrees() {
		tree := roomyWith(plain, spareBlock(plain))
		want, _ := impl.LeavesOf(plain)
		if l, ok := impl.LeavesOf(tree); !sameList(l, want) || !ok {
			t.Errorf("LeavesOf(%v) = %v, %v, want %v", plain, l, ok, want)
		}
		if l, ok := impl.LeapsOf(tree); len(l) != len(plain) || !ok {
			t.Errorf("LeapsOf(%v) = %v, %v", plain, l, ok)
		}
		checkBlockRefused(t, tree, len(tree))
		checkBlocksRefused(t, tree, 0, len(tree))
	}
	if none := roomyWith(nil, impl.Block{Parent: -1}); impl.GoodTree(none) {
		t.Error("GoodTree of no block is true")
	}
}

// someArguments are blocks, steps and slots, some of them valid for every tree.
func someArguments() []int {
	return []int{-1, 0, 1, 2, 3, 23, 24, math.MaxInt, math.MinInt}
}

// withKeptTrees lets use call functions with valid and invalid trees; kept, called after each of them, looks at the tree.
func withKeptTrees(t *testing.T, use func(tree []impl.Block, kept func(name string))) {
	t.Helper()
	trees := someTrees()
	for _, bad := range badTrees() {
		trees = append(trees, bad.tree)
	}
	for _, plain := range trees {
		spare := spareBlock(plain)
		tree := roomyWith(plain, spare)
		use(tree, func(name string) {
			t.Helper()
			checkKeptWith(t, name, tree, plain, spare)
		})
	}
}

func TestPromise19TreesAreKept(t *testing.T) {
	withKeptTrees(t, func(tree []impl.Block, kept func(name string)) {
		impl.GoodTree(tree)
		kept("GoodTree")
		impl.LeapsOf(tree)
		kept("LeapsOf")
		impl.LeavesOf(tree)
		kept("LeavesOf")
		for _, b := range someArguments() {
			impl.DepthOf(tree, b)
			kept("DepthOf")
			impl.WayTo(tree, b)
			kept("WayTo")
			for _, n := range someArguments() {
				impl.AncestorOf(tree, b, n)
				kept("AncestorOf")
				impl.HeadAt(tree, b, n)
				kept("HeadAt")
				impl.IsAbove(tree, b, n)
				kept("IsAbove")
				impl.MeetOf(tree, b, n)
				kept("MeetOf")
			}
		}
	})
}

// TestPromise19TreeListsAreNew overwrites each result and expects no other result to change.
func TestPromise19TreeListsAreNew(t *testing.T) {
	for _, tree := range someTrees() {
		for b := range tree {
			first, _ := impl.WayTo(tree, b)
			second, _ := impl.WayTo(tree, b)
			overwrite(first)
			third, _ := impl.WayTo(tree, b)
			if want := plainWay(tree, b); !sameList(second, want) || !sameList(third, want) {
				t.Fatalf("WayTo(%v, %d) = %v, then %v, want %v", tree, b, second, third, want)
			}
		}
		first, _ := impl.LeavesOf(tree)
		second, _ := impl.LeavesOf(tree)
		want := slices.Clone(first)
		overwrite(first)
		third, _ := impl.LeavesOf(tree)
		if !sameList(second, want) || !sameList(third, want) {
			t.Fatalf("LeavesOf(%v) = %v, then %v, want %v", tree, second, third, want)
		}
	}
}

// TestPromise19LeapsAreNew overwrites the jump pointers of each block, up to their capacity, and looks at those of all others.
func TestPromise19LeapsAreNew(t *testing.T) {
	for _, tree := range someTrees() {
		again, _ := impl.LeapsOf(tree)
		for b := range tree {
			leaps, _ := impl.LeapsOf(tree)
			overwrite(leaps[b])
			leaps[b] = plainLeaps(tree, b)
			for c := range tree {
				if want := plainLeaps(tree, c); !sameList(leaps[c], want) || !sameList(again[c], want) {
					t.Fatalf("LeapsOf(%v): the jump pointers of block %d share memory with those of block %d", tree, c, b)
				}
			}
		}
	}
}
