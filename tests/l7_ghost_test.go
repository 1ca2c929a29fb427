package tests

import (
	"math"
	"slices"
	"testing"

	"loop.example/g00564/impl"
)

// The tests below add up the own weights of all blocks below a block and look at all children, from the document's words.

func exampleOwn() []int {
	return []int{0, 1, 1, 0, 1}
}

func plainSub(tree []impl.Block, own []int) []int {
	var sub []int
	for b := range tree {
		sum := 0
		for _, below := range plainBelow(tree, b) {
			sum += own[below]
		}
		sub = append(sub, sum)
	}
	return sub
}

// isPlainSub takes the children's weights from each block's, which must be small, so that no difference wraps around.
func isPlainSub(tree []impl.Block, sub []int) bool {
	if len(sub) != len(tree) {
		return false
	}
	for _, weight := range sub {
		if weight < 0 || weight > len(tree)*greatestWeight {
			return false
		}
	}
	for b := range tree {
		own := sub[b]
		for _, child := range plainChildren(tree, b) {
			own -= sub[child]
		}
		if own < 0 || own > greatestWeight {
			return false
		}
	}
	return true
}

// plainChoice lets a later child win a tie; a leaf has the choice -1.
func plainChoice(tree []impl.Block, sub []int, b int) int {
	choice, greatest := -1, 0
	for _, child := range plainChildren(tree, b) {
		if sub[child] >= greatest {
			choice, greatest = child, sub[child]
		}
	}
	return choice
}

func plainHead(tree []impl.Block, sub []int, from int) int {
	choice := plainChoice(tree, sub, from)
	if choice == -1 {
		return from
	}
	return plainHead(tree, sub, choice)
}

func plainMargin(tree []impl.Block, sub []int, b int) int {
	others := []int{0}
	for _, child := range plainChildren(tree, tree[b].Parent) {
		if child != b {
			others = append(others, sub[child])
		}
	}
	return sub[b] - slices.Max(others)
}

func plainSafe(tree []impl.Block, stakes []int, votes []impl.Vote) []int {
	var safe []int
	for b := range tree {
		weight := plainWeight(stakes, plainVotersFor(tree, votes, b))
		if weight > plainSum(stakes)-weight {
			safe = append(safe, b)
		}
	}
	return safe
}

// ghostCase has a tree and own weights of its blocks.
type ghostCase struct {
	tree []impl.Block
	own  []int
}

// drawnGhosts has, for every tree, drawn weights with few ties and with many.
func drawnGhosts() []ghostCase {
	var cases []ghostCase
	for seed, tree := range someTrees() {
		cases = append(cases, ghostCase{tree, drawnNumbers(len(tree), greatestWeight, seed+1)}, ghostCase{tree, drawnNumbers(len(tree), 2, seed+2)})
	}
	return cases
}

// someGhosts adds more ties, the extreme weights, and one heavy block in turn at each place of every tree.
func someGhosts() []ghostCase {
	cases := append(drawnGhosts(), ghostCase{exampleTree(), exampleOwn()})
	for seed, tree := range someTrees() {
		many := len(tree)
		cases = append(cases,
			ghostCase{tree, repeated(0, many)}, ghostCase{tree, repeated(1, many)}, ghostCase{tree, repeated(greatestWeight, many)},
			ghostCase{tree, drawnNumbers(many, 1, seed+3)}, ghostCase{tree, drawnNumbers(many, 9, seed+4)})
		for b := range tree {
			oneAlone := repeated(0, many)
			oneAlone[b] = greatestWeight
			cases = append(cases, ghostCase{tree, oneAlone})
		}
	}
	return cases
}

// smallGhosts has all own weights in 0..2 of every tree of up to five blocks.
func smallGhosts() []ghostCase {
	var cases []ghostCase
	for _, tree := range smallTrees() {
		eachListOf(len(tree), []int{0, 1, 2}, func(own []int) {
			cases = append(cases, ghostCase{tree, slices.Clone(own)})
		})
	}
	return cases
}

// eachListOf calls use with every list of the length whose elements are some of the numbers.
func eachListOf(length int, numbers []int, use func(l []int)) {
	if length == 0 {
		use(nil)
		return
	}
	eachListOf(length-1, numbers, func(l []int) {
		for _, n := range numbers {
			use(append(slices.Clone(l), n))
		}
	})
}

func subWeights(t *testing.T, c ghostCase) []int {
	t.Helper()
	sub, ok := impl.SubWeights(c.tree, c.own)
	if !ok {
		t.Fatalf("SubWeights(%v, %v) is refused", c.tree, c.own)
	}
	return sub
}

func headFrom(t *testing.T, c ghostCase, from int) int {
	t.Helper()
	head, ok := impl.HeadFrom(c.tree, c.own, from)
	if !ok {
		t.Fatalf("HeadFrom(%v, %v, %d) is refused", c.tree, c.own, from)
	}
	return head
}

// checkWeighing expects of a tree and its own weights what the document's words say.
func checkWeighing(t *testing.T, c ghostCase) {
	t.Helper()
	sub := plainSub(c.tree, c.own)
	if got, ok := impl.SubWeights(c.tree, c.own); !sameList(got, sub) || !ok {
		t.Fatalf("SubWeights(%v, %v) = %v, %v, want %v", c.tree, c.own, got, ok, sub)
	}
	for b := range c.tree {
		if head := headFrom(t, c, b); head != plainHead(c.tree, sub, b) {
			t.Fatalf("HeadFrom(%v, %v, %d) = %d, want %d", c.tree, c.own, b, head, plainHead(c.tree, sub, b))
		}
		if b == 0 {
			continue
		}
		want := plainChoice(c.tree, sub, c.tree[b].Parent) == b
		if is, ok := impl.IsHeaviest(c.tree, c.own, b); is != want || !ok {
			t.Fatalf("IsHeaviest(%v, %v, %d) = %v, %v, want %v", c.tree, c.own, b, is, ok, want)
		}
		if margin, ok := impl.MarginAt(c.tree, c.own, b); margin != plainMargin(c.tree, sub, b) || !ok {
			t.Fatalf("MarginAt(%v, %v, %d) = %d, %v, want %d", c.tree, c.own, b, margin, ok, plainMargin(c.tree, sub, b))
		}
	}
}

func TestGhostExamples(t *testing.T) {
	tr, own, s := exampleTree(), exampleOwn(), []int{1, 1, 1}
	p := poolOf(t, poolCase{tr, s, exampleVotes()})
	w, ok := impl.SubWeights(tr, own)
	if !sameList(w, []int{3, 2, 1, 1, 1}) || !ok {
		t.Error("SubWeights", w, ok)
	}
	if head, ok := impl.HeadFrom(tr, own, 0); head != 4 || !ok {
		t.Error("HeadFrom", head, ok)
	}
	if is, ok := impl.IsHeaviest(tr, own, 2); is || !ok {
		t.Error("IsHeaviest", is, ok)
	}
	if margin, ok := impl.MarginAt(tr, own, 1); margin != 1 || !ok {
		t.Error("MarginAt", margin, ok)
	}
	if l, ok := impl.AddWeight(tr, w, 2, 5); !sameList(l, []int{8, 2, 6, 1, 1}) || !ok {
		t.Error("AddWeight", l, ok)
	}
	if l, ok := impl.MoveVote(tr, own, 1, 2, 1); !sameList(l, []int{0, 0, 2, 0, 1}) || !ok {
		t.Error("MoveVote", l, ok)
	}
	if head, ok := impl.HeadOf(tr, s, p); head != 4 || !ok {
		t.Error("HeadOf", head, ok)
	}
	if l, ok := impl.SafeBlocks(tr, s, p); !sameList(l, []int{0, 1}) || !ok {
		t.Error("SafeBlocks", l, ok)
	}
}

func TestWeighingEveryTree(t *testing.T) {
	for _, c := range append(someGhosts(), smallGhosts()...) {
		checkWeighing(t, c)
	}
}

// TestSubWeightsAddUp uses the package alone: BelowOf names the blocks of a sum.
func TestSubWeightsAddUp(t *testing.T) {
	for _, c := range someGhosts() {
		sub := subWeights(t, c)
		if len(sub) != len(c.tree) {
			t.Fatalf("SubWeights(%v, %v) = %v", c.tree, c.own, sub)
		}
		for b := range c.tree {
			below, _ := impl.BelowOf(c.tree, b)
			sum := 0
			for _, at := range below {
				sum += c.own[at]
			}
			if sub[b] != sum {
				t.Fatalf("SubWeights(%v, %v) = %v, but %d blocks below %d have %d", c.tree, c.own, sub, len(below), b, sum)
			}
		}
	}
}

// TestPromise7Head uses the package alone: the head is a leaf at or below the start, and each step goes to a heaviest child.
func TestPromise7Head(t *testing.T) {
	ties := 0
	for _, c := range append(someGhosts(), smallGhosts()...) {
		sub := subWeights(t, c)
		leaves, _ := impl.LeavesOf(c.tree)
		for from := range c.tree {
			head := headFrom(t, c, from)
			if above, ok := impl.IsAbove(c.tree, from, head); !above || !ok || !slices.Contains(leaves, head) {
				t.Fatalf("HeadFrom(%v, %v, %d) = %d, no leaf at or below it", c.tree, c.own, from, head)
			}
			for at := head; at != from; at = c.tree[at].Parent {
				siblings, _ := impl.ChildrenOf(c.tree, c.tree[at].Parent)
				for _, other := range siblings {
					if sub[other] > sub[at] {
						t.Fatalf("HeadFrom(%v, %v, %d) = %d by %d, but %d is heavier", c.tree, c.own, from, head, at, other)
					}
					if sub[other] == sub[at] && other > at {
						t.Fatalf("HeadFrom(%v, %v, %d) = %d by %d, but %d is as heavy and has a greater index", c.tree, c.own, from, head, at, other)
					}
					if sub[other] == sub[at] && other < at {
						ties++
					}
				}
			}
		}
	}
	if ties < 1000 {
		t.Errorf("only %d ties", ties)
	}
}

func TestPromise7HeadOfShapes(t *testing.T) {
	star, path := starTree(6), pathTree(6)
	// Blocks 1 and 2 are the children of 0; 3 and 4 those of 1; 5 and 6 those of 2.
	pairs := treeBy(7, func(b int) int { return (b - 1) / 2 })
	cases := []struct {
		name       string
		tree       []impl.Block
		own        []int
		from, head int
	}{
		{"one block", pathTree(1), []int{0}, 0, 0},
		{"one heavy block", pathTree(1), []int{greatestWeight}, 0, 0},
		{"a path without weights", path, repeated(0, 6), 0, 5},
		{"a path whose weight is at the front", path, []int{9, 9, 0, 0, 0, 0}, 0, 5},
		{"a path from within", path, repeated(1, 6), 3, 5},
		{"a leaf stays", path, repeated(1, 6), 5, 5},
		{"a star without weights", star, repeated(0, 6), 0, 5},
		{"a star, all as heavy", star, repeated(4, 6), 0, 5},
		{"a star, the first heaviest", star, []int{0, 3, 2, 2, 2, 2}, 0, 1},
		{"a star, one within heaviest", star, []int{0, 1, 2, 7, 2, 1}, 0, 3},
		{"a star, the last heaviest", star, []int{0, 1, 2, 3, 4, 5}, 0, 5},
		{"a star, two heaviest", star, []int{0, 1, 5, 2, 5, 1}, 0, 4},
		{"a star, the first two heaviest", star, []int{0, 5, 5, 2, 1, 1}, 0, 2},
		{"a star, the first and the last heaviest", star, []int{0, 5, 2, 2, 1, 5}, 0, 5},
		{"a leaf of a star beside a heavier one", star, []int{0, 1, 9, 1, 1, 1}, 1, 1},
		{"the weight of the start does not count", star, []int{9, 1, 0, 0, 0, 0}, 0, 1},
		{"pairs without weights", pairs, repeated(0, 7), 0, 6},
		{"pairs, a heavy leaf", pairs, []int{0, 0, 0, 5, 0, 4, 0}, 0, 3},
		{"pairs, two leaves are heavier than a third", pairs, []int{0, 0, 0, 5, 0, 3, 3}, 0, 6},
		{"pairs, the heaviest leaf is not below the heaviest child", pairs, []int{0, 0, 0, 5, 0, 4, 3}, 0, 5},
		{"pairs, a child itself is heavy", pairs, []int{0, 9, 0, 0, 0, 4, 4}, 0, 4},
		{"pairs, a tie above and no tie below", pairs, []int{0, 0, 0, 2, 4, 5, 1}, 0, 5},
		{"pairs, from the lighter child", pairs, []int{0, 0, 0, 2, 1, 9, 9}, 1, 3},
		{"pairs, the extreme weights", pairs, []int{0, 0, 0, greatestWeight, greatestWeight, greatestWeight, greatestWeight - 1}, 0, 4},
	}
	for _, c := range cases {
		if head, ok := impl.HeadFrom(c.tree, c.own, c.from); head != c.head || !ok {
			t.Errorf("%s: HeadFrom(%v, %v, %d) = %d, %v, want %d", c.name, c.tree, c.own, c.from, head, ok, c.head)
		}
	}
}

// TestIsHeaviestFollowsHeadFrom: HeadFrom the parent leads through the block exactly if it is the heaviest, and one child of each parent is.
func TestIsHeaviestFollowsHeadFrom(t *testing.T) {
	for _, c := range append(someGhosts(), smallGhosts()...) {
		heaviest := repeated(0, len(c.tree))
		for b := 1; b < len(c.tree); b++ {
			parent := c.tree[b].Parent
			is, ok := impl.IsHeaviest(c.tree, c.own, b)
			through, okAbove := impl.IsAbove(c.tree, b, headFrom(t, c, parent))
			if is != through || !ok || !okAbove {
				t.Fatalf("IsHeaviest(%v, %v, %d) = %v, %v, but HeadFrom its parent is %d", c.tree, c.own, b, is, ok, headFrom(t, c, parent))
			}
			if is {
				heaviest[parent]++
			}
		}
		for b, many := range heaviest {
			if want := min(len(plainChildren(c.tree, b)), 1); many != want {
				t.Fatalf("of the tree %v with %v, %d children of %d are the heaviest, want %d", c.tree, c.own, many, b, want)
			}
		}
	}
}

func TestMarginAtCases(t *testing.T) {
	star, path := starTree(4), pathTree(3)
	cases := []struct {
		tree      []impl.Block
		own       []int
		b, margin int
	}{
		{path, []int{5, 0, 0}, 1, 0},
		{path, []int{5, 0, 7}, 1, 7},
		{path, []int{5, 3, 7}, 1, 10},
		{path, []int{5, 3, 7}, 2, 7},
		{path, repeated(greatestWeight, 3), 1, 2 * greatestWeight},
		{star, repeated(0, 4), 2, 0},
		{star, []int{0, 3, 3, 3}, 1, 0},
		{star, []int{0, 9, 3, 5}, 1, 4},
		{star, []int{0, 9, 3, 5}, 2, -6},
		{star, []int{0, 9, 3, 5}, 3, -4},
		{star, []int{0, 5, 5, 3}, 1, 0},
		{star, []int{0, 0, 0, greatestWeight}, 1, -greatestWeight},
		{star, []int{greatestWeight, 0, 0, greatestWeight}, 3, greatestWeight},
		{exampleTree(), exampleOwn(), 2, -1},
		{exampleTree(), exampleOwn(), 3, 1},
		{exampleTree(), exampleOwn(), 4, 1},
	}
	for _, c := range cases {
		if margin, ok := impl.MarginAt(c.tree, c.own, c.b); margin != c.margin || !ok {
			t.Errorf("MarginAt(%v, %v, %d) = %d, %v, want %d", c.tree, c.own, c.b, margin, ok, c.margin)
		}
	}
}

// TestMarginTellsTheHeaviest: a block ahead is the heaviest and a block behind is not; a tie is decided by the index.
func TestMarginTellsTheHeaviest(t *testing.T) {
	signs := map[string]int{}
	for _, c := range append(someGhosts(), smallGhosts()...) {
		for b := 1; b < len(c.tree); b++ {
			margin, ok := impl.MarginAt(c.tree, c.own, b)
			is, okIs := impl.IsHeaviest(c.tree, c.own, b)
			if !ok || !okIs || margin > 0 && !is || margin < 0 && is {
				t.Fatalf("MarginAt(%v, %v, %d) = %d, %v, IsHeaviest %v, %v", c.tree, c.own, b, margin, ok, is, okIs)
			}
			switch {
			case margin > 0:
				signs["ahead"]++
			case margin < 0:
				signs["behind"]++
			default:
				signs["tie"]++
			}
		}
	}
	if signs["ahead"] < 1000 || signs["behind"] < 1000 || signs["tie"] < 1000 {
		t.Error("too few of a kind", signs)
	}
}

// checkAddWeight expects the sums of the changed own weights, which differ on the path to the block alone.
func checkAddWeight(t *testing.T, c ghostCase, b int, by int) []int {
	t.Helper()
	sub := subWeights(t, c)
	changed := slices.Clone(c.own)
	changed[b] += by
	want := subWeights(t, ghostCase{c.tree, changed})
	got, ok := impl.AddWeight(c.tree, sub, b, by)
	if !sameList(got, want) || !ok {
		t.Fatalf("AddWeight(%v, %v, %d, %d) = %v, %v, want %v", c.tree, sub, b, by, got, ok, want)
	}
	for at := range c.tree {
		more := 0
		if plainAbove(c.tree, at, b) {
			more = by
		}
		if got[at]-sub[at] != more {
			t.Fatalf("AddWeight(%v, %v, %d, %d) = %v changes block %d", c.tree, sub, b, by, got, at)
		}
	}
	return changed
}

func TestAddWeightToEveryBlock(t *testing.T) {
	for _, c := range someGhosts() {
		for b, weight := range c.own {
			for _, to := range []int{0, 1, 777, greatestWeight - 1, greatestWeight} {
				checkAddWeight(t, c, b, to-weight)
			}
			checkAddWeight(t, c, b, 0)
		}
	}
}

// TestAddWeightAgainAndAgain goes on with the same weights, at drawn blocks and by drawn amounts of both signs.
func TestAddWeightAgainAndAgain(t *testing.T) {
	for seed, tree := range someTrees() {
		c := ghostCase{tree, drawnNumbers(len(tree), greatestWeight, seed+1)}
		blocks := drawnNumbers(12, len(tree)-1, seed+2)
		for i, to := range drawnNumbers(12, greatestWeight, seed+3) {
			b := blocks[i]
			c.own = checkAddWeight(t, c, b, to-c.own[b])
		}
	}
}

// plainMove returns false where a resulting weight is out of its bounds.
func plainMove(own []int, from int, to int, by int) ([]int, bool) {
	moved := slices.Clone(own)
	moved[from] -= by
	moved[to] += by
	return moved, moved[from] >= 0 && moved[to] <= greatestWeight
}

func checkMoveVote(t *testing.T, c ghostCase, from int, to int, by int) {
	t.Helper()
	want, is := plainMove(c.own, from, to, by)
	if !is {
		checkMoveVoteRefused(t, c.tree, c.own, from, to, by)
		return
	}
	got, ok := impl.MoveVote(c.tree, c.own, from, to, by)
	if !sameList(got, want) || !ok {
		t.Fatalf("MoveVote(%v, %v, %d, %d, %d) = %v, %v, want %v", c.tree, c.own, from, to, by, got, ok, want)
	}
	if plainSum(got) != plainSum(c.own) {
		t.Fatalf("MoveVote(%v, %v, %d, %d, %d) = %v changes the total", c.tree, c.own, from, to, by, got)
	}
}

func TestMoveVoteBetweenAllBlocks(t *testing.T) {
	for seed, tree := range someTrees() {
		for _, own := range [][]int{drawnNumbers(len(tree), greatestWeight, seed+1), drawnNumbers(len(tree), 3, seed+2), repeated(0, len(tree)), repeated(greatestWeight, len(tree))} {
			c := ghostCase{tree, own}
			for from := range tree {
				for to := range tree {
					for _, by := range []int{0, 1, 2, own[from], own[from] + 1, greatestWeight - own[to], greatestWeight - own[to] + 1, greatestWeight} {
						if by <= greatestWeight {
							checkMoveVote(t, c, from, to, by)
						}
					}
				}
			}
		}
	}
}

// TestMoveVoteToItsOwnBlock: the results are the given weights, whether the block has what is moved or room for it, or not.
func TestMoveVoteToItsOwnBlock(t *testing.T) {
	for _, c := range someGhosts() {
		for b := range c.tree {
			for _, by := range []int{0, 1, c.own[b], greatestWeight - 1, greatestWeight} {
				if l, ok := impl.MoveVote(c.tree, c.own, b, b, by); !sameList(l, c.own) || !ok {
					t.Fatalf("MoveVote(%v, %v, %d, %d, %d) = %v, %v", c.tree, c.own, b, b, by, l, ok)
				}
			}
			for _, by := range []int{-1, greatestWeight + 1, math.MinInt, math.MaxInt} {
				checkMoveVoteRefused(t, c.tree, c.own, b, b, by)
			}
		}
	}
}

// TestMoveVoteThereAndBack: a vote that returns leaves everything as it was, and AddWeight twice does what moving does.
func TestMoveVoteThereAndBack(t *testing.T) {
	for _, c := range someGhosts() {
		sub := subWeights(t, c)
		for from, weight := range c.own {
			to := (from*5 + 3) % len(c.tree)
			by := min(weight, greatestWeight-c.own[to])
			moved, ok := impl.MoveVote(c.tree, c.own, from, to, by)
			back, okBack := impl.MoveVote(c.tree, moved, to, from, by)
			if !ok || !okBack || !sameList(back, c.own) {
				t.Fatalf("MoveVote(%v, %v, %d, %d, %d) = %v, %v, and back %v, %v", c.tree, c.own, from, to, by, moved, ok, back, okBack)
			}
			less, okLess := impl.AddWeight(c.tree, sub, from, -by)
			again, okAgain := impl.AddWeight(c.tree, less, to, by)
			if want := subWeights(t, ghostCase{c.tree, moved}); !okLess || !okAgain || !sameList(again, want) {
				t.Fatalf("AddWeight of %v twice = %v, %v, then %v, %v, want %v", sub, less, okLess, again, okAgain, want)
			}
		}
	}
}

// checkPoolHead expects the head and the safe blocks of a pool to be what the document's words say of the votes.
func checkPoolHead(t *testing.T, c poolCase, p impl.Pool) {
	t.Helper()
	want := plainHead(c.tree, plainSub(c.tree, plainWeights(c.tree, c.stakes, c.votes)), 0)
	if head, ok := impl.HeadOf(c.tree, c.stakes, p); head != want || !ok {
		t.Fatalf("HeadOf(%v, %v, %v) = %d, %v, want %d", c.tree, c.stakes, p, head, ok, want)
	}
	safe := plainSafe(c.tree, c.stakes, c.votes)
	if l, ok := impl.SafeBlocks(c.tree, c.stakes, p); !sameList(l, safe) || !ok {
		t.Fatalf("SafeBlocks(%v, %v, %v) = %v, %v, want %v", c.tree, c.stakes, p, l, ok, safe)
	}
}

// agreedPools has, for each block of every tree, three heavy voters at or below the block and two light ones anywhere.
func agreedPools() []poolCase {
	var cases []poolCase
	for seed, tree := range someTrees() {
		for b := range tree {
			stakes := []int{3, 1 + b%3, 2, 1, 1}
			below := plainBelow(tree, b)
			var votes []impl.Vote
			for who := range stakes {
				block := below[(who*7+seed)%len(below)]
				if who > 2 {
					block = (b + who*5) % len(tree)
				}
				votes = append(votes, impl.Vote{Who: who, Slot: 1000 + who, Block: block})
			}
			cases = append(cases, poolCase{tree, stakes, votes})
		}
	}
	return cases
}

// threeVoters has every choice of blocks of three voters, or of no vote, in every tree of up to five blocks.
func threeVoters() []poolCase {
	var cases []poolCase
	for _, tree := range smallTrees() {
		choices := []int{-1}
		for b := range tree {
			choices = append(choices, b)
		}
		eachListOf(3, choices, func(blocks []int) {
			var votes []impl.Vote
			for who, b := range blocks {
				if b >= 0 {
					votes = append(votes, impl.Vote{Who: who, Slot: 100, Block: b})
				}
			}
			cases = append(cases, poolCase{tree, []int{1, 2, 2}, votes})
		})
	}
	return cases
}

func ghostPools() []poolCase {
	return slices.Concat(somePools(), smallPools(), agreedPools(), threeVoters())
}

func TestHeadOfEveryPool(t *testing.T) {
	for _, c := range ghostPools() {
		p := poolOf(t, c)
		checkPoolHead(t, c, p)
		own, _ := impl.WeightsIn(c.tree, c.stakes, p)
		if head, ok := impl.HeadOf(c.tree, c.stakes, p); head != headFrom(t, ghostCase{c.tree, own}, 0) || !ok {
			t.Fatalf("HeadOf(%v, %v, %v) = %d, %v", c.tree, c.stakes, p, head, ok)
		}
	}
}

// TestHeadOfNoVotes: without weights every choice is a tie.
func TestHeadOfNoVotes(t *testing.T) {
	for _, tree := range someTrees() {
		want := headFrom(t, ghostCase{tree, repeated(0, len(tree))}, 0)
		for _, stakes := range [][]int{{1}, {1, 1, 1}, repeated(impl.MaxStake, impl.MaxVoters)} {
			for _, votes := range [][]impl.Vote{nil, {}} {
				if head, ok := impl.HeadOf(tree, stakes, impl.Pool{Votes: votes}); head != want || !ok {
					t.Errorf("HeadOf(%v, %v, no votes) = %d, %v, want %d", tree, stakes, head, ok, want)
				}
				if l, ok := impl.SafeBlocks(tree, stakes, impl.Pool{Votes: votes}); len(l) != 0 || !ok {
					t.Errorf("SafeBlocks(%v, %v, no votes) = %v, %v", tree, stakes, l, ok)
				}
			}
		}
	}
}

// TestPromise7SafeBlocks uses the package alone: every safe block is on the way from block 0 to the head.
func TestPromise7SafeBlocks(t *testing.T) {
	safeAtForks := 0
	for _, c := range ghostPools() {
		p := poolOf(t, c)
		safe, ok := impl.SafeBlocks(c.tree, c.stakes, p)
		head, okHead := impl.HeadOf(c.tree, c.stakes, p)
		way, okWay := impl.WayTo(c.tree, head)
		if !ok || !okHead || !okWay {
			t.Fatal(c, safe, ok, head, okHead, way, okWay)
		}
		for _, b := range safe {
			if !slices.Contains(way, b) {
				t.Fatalf("block %d of %v, %v is safe, but the way to the head is %v", b, c.tree, p, way)
			}
			if b > 0 && len(plainChildren(c.tree, c.tree[b].Parent)) > 1 {
				safeAtForks++
			}
		}
	}
	if safeAtForks < 1000 {
		t.Errorf("only %d safe blocks had competition", safeAtForks)
	}
}

func TestSafeBlocksAtHalf(t *testing.T) {
	tr, star := exampleTree(), starTree(4)
	cases := []struct {
		name   string
		tree   []impl.Block
		stakes []int
		votes  [][3]int
		safe   []int
	}{
		{"exactly half", tr, []int{1, 1}, [][3]int{{0, 5, 2}}, nil},
		{"all", tr, []int{1, 1}, [][3]int{{0, 5, 2}, {1, 5, 2}}, []int{0, 2}},
		{"half below each child", tr, []int{1, 1}, [][3]int{{0, 5, 2}, {1, 5, 1}}, []int{0}},
		{"half of an even sum", tr, []int{2, 1, 1}, [][3]int{{0, 5, 4}}, nil},
		{"half of an even sum of two", tr, []int{2, 1, 1}, [][3]int{{1, 5, 4}, {2, 6, 4}}, nil},
		{"one more than half", tr, []int{3, 1, 1}, [][3]int{{0, 5, 4}}, []int{0, 1, 3, 4}},
		{"just less than half of an odd sum", tr, []int{2, 2, 1}, [][3]int{{0, 5, 4}}, nil},
		{"just more than half of an odd sum", tr, []int{2, 2, 1}, [][3]int{{0, 5, 4}, {2, 5, 4}}, []int{0, 1, 3, 4}},
		{"half of the greatest stakes", star, repeated(impl.MaxStake, 10), [][3]int{{0, 9, 2}, {1, 9, 2}, {2, 9, 2}, {3, 9, 2}, {4, 9, 2}}, nil},
		{"more than half of the greatest stakes", star, repeated(impl.MaxStake, 10), [][3]int{{0, 9, 2}, {1, 9, 2}, {2, 9, 2}, {3, 9, 2}, {4, 9, 2}, {5, 9, 2}}, []int{0, 2}},
		{"votes along a path", tr, []int{1, 1, 1}, [][3]int{{0, 5, 4}, {1, 5, 3}, {2, 5, 1}}, []int{0, 1, 3}},
		{"half of all stakes, all of those that vote", tr, []int{5, 5}, [][3]int{{1, 5, 0}}, nil},
		{"for block 0 alone", tr, []int{5, 6}, [][3]int{{1, 5, 0}}, []int{0}},
		{"an equivocation does not count", tr, []int{3, 1, 1}, [][3]int{{0, 5, 4}, {0, 5, 3}, {1, 5, 4}, {2, 5, 4}}, nil},
		{"the latest vote counts", tr, []int{3, 1, 1}, [][3]int{{0, 5, 4}, {0, 6, 2}}, []int{0, 2}},
		{"one voter", pathTree(1), []int{1}, [][3]int{{0, 1, 0}}, []int{0}},
	}
	for _, c := range cases {
		votes := votesBy(c.votes)
		p := poolOf(t, poolCase{c.tree, c.stakes, votes})
		if l, ok := impl.SafeBlocks(c.tree, c.stakes, p); !sameList(l, c.safe) || !ok {
			t.Errorf("%s: SafeBlocks = %v, %v, want %v", c.name, l, ok, c.safe)
		}
		checkPoolHead(t, poolCase{c.tree, c.stakes, votes}, p)
	}
}

// numbersAroundWeights are those around both ends of the weights, and the extreme ones.
func numbersAroundWeights() []int {
	return []int{-1, 0, 1, greatestWeight - 1, greatestWeight, greatestWeight + 1, -greatestWeight, math.MinInt, math.MinInt + 1, math.MaxInt - 1, math.MaxInt}
}

func isWeight(n int) bool {
	return n >= 0 && n <= greatestWeight
}

func TestOwnWeightBounds(t *testing.T) {
	for _, tree := range someTrees() {
		for b := range tree {
			for _, n := range numbersAroundWeights() {
				own := repeated(3, len(tree))
				own[b] = n
				if isWeight(n) {
					checkWeighing(t, ghostCase{tree, own})
				} else {
					checkOwnRefused(t, tree, own)
				}
			}
		}
	}
}

func TestMoveVoteBounds(t *testing.T) {
	tr := exampleTree()
	for _, by := range numbersAroundWeights() {
		own := []int{greatestWeight, 0, 5, 0, greatestWeight}
		for from := range tr {
			for to := range tr {
				if isWeight(by) {
					checkMoveVote(t, ghostCase{tr, own}, from, to, by)
				} else {
					checkMoveVoteRefused(t, tr, own, from, to, by)
				}
			}
		}
	}
	cases := []struct {
		weightFrom, weightTo, by int
		ok                       bool
	}{
		{0, 0, 0, true}, {0, 0, 1, false}, {4, 0, 4, true}, {4, 0, 5, false},
		{greatestWeight, 0, greatestWeight, true}, {greatestWeight, 1, greatestWeight, false}, {greatestWeight, 1, greatestWeight - 1, true},
		{greatestWeight, greatestWeight, 0, true}, {greatestWeight, greatestWeight, 1, false}, {1, greatestWeight - 1, 1, true}, {2, greatestWeight - 1, 2, false},
		{greatestWeight, 0, -1, false}, {0, greatestWeight, -1, false}, {5, 5, -1, false}, {greatestWeight, 0, greatestWeight + 1, false},
	}
	for _, c := range cases {
		own := []int{7, c.weightFrom, c.weightTo, 7, 7}
		l, ok := impl.MoveVote(tr, own, 1, 2, c.by)
		if ok != c.ok || ok && !sameList(l, []int{7, c.weightFrom - c.by, c.weightTo + c.by, 7, 7}) || !ok && len(l) != 0 {
			t.Errorf("MoveVote(%v, 1, 2, %d) = %v, %v", own, c.by, l, ok)
		}
	}
}

func TestAddWeightBounds(t *testing.T) {
	for seed, tree := range someTrees() {
		for _, own := range [][]int{drawnNumbers(len(tree), greatestWeight, seed+1), repeated(0, len(tree)), repeated(greatestWeight, len(tree))} {
			c := ghostCase{tree, own}
			sub := subWeights(t, c)
			for b, weight := range own {
				for _, to := range []int{0, 1, greatestWeight - 1, greatestWeight} {
					checkAddWeight(t, c, b, to-weight)
				}
				for _, to := range []int{-1, greatestWeight + 1, -greatestWeight, 2 * greatestWeight} {
					checkAddWeightRefused(t, tree, sub, b, to-weight)
				}
				for _, by := range []int{math.MinInt, math.MinInt + 1, math.MinInt + weight, math.MaxInt, math.MaxInt - weight, math.MaxInt - 1} {
					checkAddWeightRefused(t, tree, sub, b, by)
				}
			}
		}
	}
}

// TestAddWeightOfAllSmallLists: of all lists of small numbers, exactly those that some own weights have are accepted.
func TestAddWeightOfAllSmallLists(t *testing.T) {
	accepted, refused := 0, 0
	for _, tree := range smallTrees() {
		eachListOf(len(tree), []int{-1, 0, 1, 2, 3}, func(sub []int) {
			l, ok := impl.AddWeight(tree, sub, 0, 0)
			if isPlainSub(tree, sub) {
				accepted++
				if !sameList(l, sub) || !ok {
					t.Fatalf("AddWeight(%v, %v, 0, 0) = %v, %v", tree, sub, l, ok)
				}
			} else {
				refused++
				if len(l) != 0 || ok {
					t.Fatalf("AddWeight(%v, %v, 0, 0) = %v, %v, but these are no subtree weights", tree, sub, l, ok)
				}
			}
		})
	}
	if accepted < 500 || refused < 5000 {
		t.Errorf("only %d accepted and %d refused", accepted, refused)
	}
}

// badOwns are no own weights of the tree: too few, too many, or one of them out of its bounds.
func badOwns(tree []impl.Block) [][]int {
	many := len(tree)
	lists := [][]int{nil, {}, repeated(0, many-1), repeated(1, many-1), repeated(0, many+1), repeated(1, many+1), repeated(greatestWeight, many+2), repeated(0, impl.MaxBlocks+1), repeated(1, 1000)}
	for at := range tree {
		for _, n := range wrongNumbers() {
			drawn, zeros := drawnNumbers(many, greatestWeight, many+at), repeated(0, many)
			drawn[at], zeros[at] = n, n
			lists = append(lists, drawn, zeros)
		}
	}
	return append(lists, repeated(math.MaxInt, many), repeated(math.MinInt, many))
}

// badSubs are the sums that lists of badOwns would have, even where these wrap around, and sums of which one alone has been changed.
func badSubs(tree []impl.Block) [][]int {
	many := len(tree)
	var lists [][]int
	for _, own := range badOwns(tree) {
		if len(own) == many {
			lists = append(lists, plainSub(tree, own))
		} else {
			lists = append(lists, own)
		}
	}
	for b := range tree {
		least, most := repeated(0, many), plainSub(tree, repeated(greatestWeight, many))
		least[b]--
		most[b]++
		lists = append(lists, least, most)
		for _, n := range []int{-1, many*greatestWeight + 1, math.MinInt, math.MinInt + 1, math.MaxInt, math.MaxInt - 1} {
			sub := plainSub(tree, drawnNumbers(many, greatestWeight, many))
			sub[b] = n
			lists = append(lists, sub)
		}
		if b > 0 {
			// More than the parent has: no own weight of the parent could make up for it.
			heavier := plainSub(tree, repeated(0, many))
			heavier[b] = 1
			lists = append(lists, heavier)
		}
	}
	return append(lists, repeated(math.MinInt, many), repeated(math.MaxInt, many))
}

func checkMoveVoteRefused(t *testing.T, tree []impl.Block, own []int, from int, to int, by int) {
	t.Helper()
	if l, ok := impl.MoveVote(tree, own, from, to, by); len(l) != 0 || ok {
		t.Errorf("MoveVote(%v, %v, %d, %d, %d) = %v, %v", tree, own, from, to, by, l, ok)
	}
}

func checkAddWeightRefused(t *testing.T, tree []impl.Block, sub []int, b int, by int) {
	t.Helper()
	if l, ok := impl.AddWeight(tree, sub, b, by); len(l) != 0 || ok {
		t.Errorf("AddWeight(%v, %v, %d, %d) = %v, %v", tree, sub, b, by, l, ok)
	}
}

// checkChildRefused expects the zero result of the functions that compare a block with its siblings.
func checkChildRefused(t *testing.T, tree []impl.Block, own []int, b int) {
	t.Helper()
	if is, ok := impl.IsHeaviest(tree, own, b); is || ok {
		t.Errorf("IsHeaviest(%v, %v, %d) = %v, %v", tree, own, b, is, ok)
	}
	if margin, ok := impl.MarginAt(tree, own, b); margin != 0 || ok {
		t.Errorf("MarginAt(%v, %v, %d) = %d, %v", tree, own, b, margin, ok)
	}
}

func checkHeadFromRefused(t *testing.T, tree []impl.Block, own []int, from int) {
	t.Helper()
	if head, ok := impl.HeadFrom(tree, own, from); head != 0 || ok {
		t.Errorf("HeadFrom(%v, %v, %d) = %d, %v", tree, own, from, head, ok)
	}
}

// checkOwnRefused expects the zero result of every function of own weights, for valid blocks and others.
func checkOwnRefused(t *testing.T, tree []impl.Block, own []int) {
	t.Helper()
	if l, ok := impl.SubWeights(tree, own); len(l) != 0 || ok {
		t.Errorf("SubWeights(%v, %v) = %v, %v", tree, own, l, ok)
	}
	for _, b := range append(someArguments(), len(tree)-1, len(tree), len(own)) {
		checkHeadFromRefused(t, tree, own, b)
		checkChildRefused(t, tree, own, b)
		for _, by := range []int{0, 1, math.MinInt, math.MaxInt} {
			checkMoveVoteRefused(t, tree, own, b, 0, by)
			checkMoveVoteRefused(t, tree, own, 0, b, by)
			checkMoveVoteRefused(t, tree, own, b, b, by)
		}
	}
}

func checkSubRefused(t *testing.T, tree []impl.Block, sub []int) {
	t.Helper()
	for _, b := range append(someArguments(), len(tree)-1, len(tree), len(sub)) {
		for _, by := range []int{0, 1, -1, math.MinInt, math.MaxInt} {
			checkAddWeightRefused(t, tree, sub, b, by)
		}
	}
}

// checkPoolHeadRefused expects the zero result of the functions that weigh a pool.
func checkPoolHeadRefused(t *testing.T, tree []impl.Block, stakes []int, p impl.Pool) {
	t.Helper()
	if head, ok := impl.HeadOf(tree, stakes, p); head != 0 || ok {
		t.Errorf("HeadOf(%v, %v, %v) = %d, %v", tree, stakes, p, head, ok)
	}
	if l, ok := impl.SafeBlocks(tree, stakes, p); len(l) != 0 || ok {
		t.Errorf("SafeBlocks(%v, %v, %v) = %v, %v", tree, stakes, p, l, ok)
	}
}

func TestPromise19WeighingInvalidTrees(t *testing.T) {
	for _, bad := range badTrees() {
		many := len(bad.tree)
		for _, own := range [][]int{repeated(0, many), repeated(5, many), exampleOwn()} {
			checkOwnRefused(t, bad.tree, own)
			checkSubRefused(t, bad.tree, own)
		}
		falling := make([]int, many)
		for b := range falling {
			falling[b] = many - b
		}
		checkSubRefused(t, bad.tree, falling)
		for _, votes := range [][]impl.Vote{nil, {{Who: 0, Slot: impl.MaxSlot, Block: 0}}, plainPool(exampleVotes())} {
			checkPoolHeadRefused(t, bad.tree, []int{1, 1, 1}, impl.Pool{Votes: votes})
		}
	}
}

func TestPromise19InvalidOwnWeights(t *testing.T) {
	for _, tree := range someTrees() {
		for _, own := range badOwns(tree) {
			checkOwnRefused(t, tree, own)
		}
	}
}

func TestPromise19InvalidSubWeights(t *testing.T) {
	for _, tree := range someTrees() {
		for _, sub := range badSubs(tree) {
			if isPlainSub(tree, sub) {
				t.Fatalf("%v are subtree weights of %v", sub, tree)
			}
			checkSubRefused(t, tree, sub)
		}
	}
}

func TestPromise19WeighingInvalidBlocks(t *testing.T) {
	for _, c := range someGhosts() {
		sub := subWeights(t, c)
		checkChildRefused(t, c.tree, c.own, 0)
		for _, b := range badBlocks(c.tree) {
			if b >= 0 && b < len(c.tree) {
				continue
			}
			checkHeadFromRefused(t, c.tree, c.own, b)
			checkChildRefused(t, c.tree, c.own, b)
			for _, by := range []int{0, 1, math.MinInt, math.MaxInt} {
				checkAddWeightRefused(t, c.tree, sub, b, by)
				checkMoveVoteRefused(t, c.tree, c.own, b, 0, by)
				checkMoveVoteRefused(t, c.tree, c.own, 0, b, by)
				checkMoveVoteRefused(t, c.tree, c.own, b, b, by)
			}
		}
	}
}

func TestPromise19HeadOfInvalidPools(t *testing.T) {
	tr, s := exampleTree(), []int{1, 1, 1}
	for _, bad := range badPools() {
		checkPoolHeadRefused(t, tr, s, impl.Pool{Votes: bad.votes})
	}
	for _, stakes := range badStakes() {
		for _, votes := range [][]impl.Vote{nil, {{Who: 0, Slot: 5, Block: 0}}, plainPool(exampleVotes())} {
			checkPoolHeadRefused(t, tr, stakes, impl.Pool{Votes: votes})
		}
	}
	p := poolOf(t, poolCase{tr, s, exampleVotes()})
	checkPoolHeadRefused(t, tr[:4], s, p)
	checkPoolHeadRefused(t, tr, s[:2], p)
}

// TestPromise19WeightsBehindTheLength: what is behind the length of an argument is no block, no weight, no stake and no vote.
func TestPromise19WeightsBehindTheLength(t *testing.T) {
	for _, plain := range someGhosts() {
		c := ghostCase{roomyWith(plain.tree, spareBlock(plain.tree)), roomy(plain.own)}
		checkWeighing(t, c)
		many := len(c.tree)
		checkHeadFromRefused(t, c.tree, c.own, many)
		checkChildRefused(t, c.tree, c.own, many)
		checkMoveVoteRefused(t, c.tree, c.own, many, 0, 0)
		checkMoveVoteRefused(t, c.tree, c.own, 0, many, 0)
		sub := roomy(plainSub(plain.tree, plain.own))
		checkAddWeightRefused(t, c.tree, sub, many, 0)
		if l, ok := impl.AddWeight(c.tree, sub, many-1, 0); !sameList(l, sub) || !ok {
			t.Fatalf("AddWeight(%v, %v, %d, 0) = %v, %v", c.tree, sub, many-1, l, ok)
		}
		// The missing weight would be there, behind the length.
		checkOwnRefused(t, c.tree, c.own[:many-1])
		checkSubRefused(t, c.tree, sub[:many-1])
	}
	for _, c := range somePools() {
		p := impl.Pool{Votes: roomyWith(plainPool(c.votes), spareVote)}
		checkPoolHead(t, poolCase{roomyWith(c.tree, spareBlock(c.tree)), roomy(c.stakes), c.votes}, p)
	}
}

// keptGhosts are valid and not valid in every argument.
func keptGhosts() []ghostCase {
	cases := someGhosts()
	for _, bad := range badTrees() {
		cases = append(cases, ghostCase{bad.tree, repeated(1, len(bad.tree))}, ghostCase{bad.tree, exampleOwn()})
	}
	for _, tree := range [][]impl.Block{pathTree(1), exampleTree(), starTree(6), pathTree(impl.MaxBlocks)} {
		for _, own := range badOwns(tree) {
			cases = append(cases, ghostCase{tree, own})
		}
		for _, sub := range badSubs(tree) {
			cases = append(cases, ghostCase{tree, sub})
		}
	}
	return cases
}

func TestPromise19WeightsAreKept(t *testing.T) {
	for _, c := range keptGhosts() {
		was := c.own
		if impl.GoodTree(c.tree) && len(c.own) == len(c.tree) {
			was = plainSub(c.tree, c.own)
		}
		spare := spareBlock(c.tree)
		tree, own, sub := roomyWith(c.tree, spare), roomy(c.own), roomy(was)
		kept := func(name string) {
			t.Helper()
			checkKeptWith(t, name, tree, c.tree, spare)
			checkKept(t, name, own, c.own)
			checkKept(t, name, sub, was)
		}
		impl.SubWeights(tree, own)
		kept("SubWeights")
		for _, b := range someArguments() {
			impl.HeadFrom(tree, own, b)
			kept("HeadFrom")
			impl.IsHeaviest(tree, own, b)
			kept("IsHeaviest")
			impl.MarginAt(tree, own, b)
			kept("MarginAt")
			for _, by := range []int{-1, 0, 1, greatestWeight, math.MinInt, math.MaxInt} {
				impl.AddWeight(tree, sub, b, by)
				kept("AddWeight")
				impl.MoveVote(tree, own, b, 0, by)
				impl.MoveVote(tree, own, 0, b, by)
				impl.MoveVote(tree, own, b, b, by)
				kept("MoveVote")
			}
		}
	}
}

func TestPromise19HeadOfKeepsPools(t *testing.T) {
	for _, c := range keptPoolCases() {
		for _, was := range [][]impl.Vote{plainPool(c.votes), c.votes} {
			spare := spareBlock(c.tree)
			tree, stakes, votes := roomyWith(c.tree, spare), roomy(c.stakes), roomyWith(was, spareVote)
			for name, call := range map[string]func(){
				"HeadOf":     func() { impl.HeadOf(tree, stakes, impl.Pool{Votes: votes}) },
				"SafeBlocks": func() { impl.SafeBlocks(tree, stakes, impl.Pool{Votes: votes}) },
			} {
				call()
				checkKeptWith(t, name, tree, c.tree, spare)
				checkKept(t, name, stakes, c.stakes)
				checkKeptWith(t, name, votes, was, spareVote)
			}
		}
	}
}

func TestPromise19WeightsAreNew(t *testing.T) {
	for _, c := range drawnGhosts() {
		tree := slices.Clone(c.tree)
		sub := plainSub(c.tree, c.own)
		checkNewFrom(t, "SubWeights", c.own, sub, func(own []int) []int {
			l, _ := impl.SubWeights(tree, own)
			return l
		})
		for b, weight := range c.own {
			for _, by := range []int{0, -weight, greatestWeight - weight} {
				changed := slices.Clone(c.own)
				changed[b] += by
				checkNewFrom(t, "AddWeight", sub, plainSub(c.tree, changed), func(sub []int) []int {
					l, _ := impl.AddWeight(tree, sub, b, by)
					return l
				})
			}
			for _, to := range []int{0, b, len(tree) - 1} {
				by := min(weight, greatestWeight-c.own[to])
				for _, moved := range []int{0, by} {
					want, _ := plainMove(c.own, b, to, moved)
					checkNewFrom(t, "MoveVote", c.own, want, func(own []int) []int {
						l, _ := impl.MoveVote(tree, own, b, to, moved)
						return l
					})
				}
			}
		}
		if !slices.Equal(tree, c.tree) {
			t.Fatalf("overwriting a result changed the tree %v to %v", c.tree, tree)
		}
	}
}

func TestPromise19SafeBlocksAreNew(t *testing.T) {
	for _, c := range append(somePools(), agreedPools()...) {
		p := poolOf(t, c)
		votes := slices.Clone(p.Votes)
		checkNewFrom(t, "SafeBlocks", c.stakes, plainSafe(c.tree, c.stakes, c.votes), func(stakes []int) []int {
			l, _ := impl.SafeBlocks(c.tree, stakes, p)
			return l
		})
		if !slices.Equal(p.Votes, votes) {
			t.Fatalf("overwriting the result of SafeBlocks changed the pool %v to %v", votes, p.Votes)
		}
	}
}
