package tests

import (
	"math"
	"slices"
	"testing"

	"loop.example/g00564/impl"
)

// The tests below look at every pair of blocks again and again until nothing more is justified, from the document's words.

// linkCase has the arguments of the functions that take links.
type linkCase struct {
	tree   []impl.Block
	stakes []int
	links  []impl.Link
}

// forkTree is the tree of the examples of this chapter.
func forkTree() []impl.Block {
	return []impl.Block{{Parent: -1}, {Parent: 0, Slot: 1}, {Parent: 0, Slot: 1}, {Parent: 1, Slot: 2}, {Parent: 2, Slot: 2}}
}

// exampleLinks are those of the examples of this chapter.
func exampleLinks() []impl.Link {
	return linksBy([][3]int{{0, 0, 1}, {1, 0, 1}, {0, 1, 3}, {1, 1, 3}})
}

// linksBy returns links by their Who, From and To.
func linksBy(triples [][3]int) []impl.Link {
	var links []impl.Link
	for _, l := range triples {
		links = append(links, impl.Link{Who: l[0], From: l[1], To: l[2]})
	}
	return links
}

// linksOf returns a link from one block to another for each voter of a group.
func linksOf(who []int, from int, to int) []impl.Link {
	var links []impl.Link
	for _, voter := range who {
		links = append(links, impl.Link{Who: voter, From: from, To: to})
	}
	return links
}

// linksAlong returns links of voter 0, each by its From and To.
func linksAlong(pairs ...[2]int) []impl.Link {
	var links []impl.Link
	for _, pair := range pairs {
		links = append(links, impl.Link{From: pair[0], To: pair[1]})
	}
	return links
}

func blocksOf(tree []impl.Block) []int {
	var blocks []int
	for b := range tree {
		blocks = append(blocks, b)
	}
	return blocks
}

func plainDepth(tree []impl.Block, b int) int {
	return len(plainWay(tree, b)) - 1
}

func plainOneLink(tree []impl.Block, from int, to int) bool {
	return from != to && plainAbove(tree, from, to)
}

// linkablePairs returns the From and To of every link that the tree permits.
func linkablePairs(tree []impl.Block) [][2]int {
	var pairs [][2]int
	for from := range tree {
		for to := range tree {
			if plainOneLink(tree, from, to) {
				pairs = append(pairs, [2]int{from, to})
			}
		}
	}
	return pairs
}

func plainWhoLinks(c linkCase, from int, to int) []int {
	var who []int
	for voter := range c.stakes {
		if slices.Contains(c.links, impl.Link{Who: voter, From: from, To: to}) {
			who = append(who, voter)
		}
	}
	return who
}

func plainLinked(c linkCase, from int, to int) bool {
	return 3*plainWeight(c.stakes, plainWhoLinks(c, from, to)) >= 2*plainSum(c.stakes)
}

// plainJustified goes over all pairs of blocks, backwards, until a whole round justifies nothing.
func plainJustified(c linkCase) []int {
	justified := []int{0}
	for more := true; more; {
		more = false
		for to := len(c.tree) - 1; to > 0; to-- {
			for from := range c.tree {
				if !slices.Contains(justified, to) && slices.Contains(justified, from) && plainLinked(c, from, to) {
					justified, more = append(justified, to), true
				}
			}
		}
	}
	slices.Sort(justified)
	return justified
}

func plainFinal(c linkCase) []int {
	var final []int
	for _, from := range plainJustified(c) {
		for to := range c.tree {
			if plainDepth(c.tree, to) == plainDepth(c.tree, from)+1 && plainLinked(c, from, to) {
				final = append(final, from)
				break
			}
		}
	}
	return final
}

func plainHighest(c linkCase) int {
	highest := 0
	for _, b := range plainJustified(c) {
		if plainDepth(c.tree, b) >= plainDepth(c.tree, highest) {
			highest = b
		}
	}
	return highest
}

func plainConflict(c linkCase) (int, int, bool) {
	final := plainFinal(c)
	for _, a := range final {
		for _, b := range final {
			if a < b && !plainAbove(c.tree, a, b) && !plainAbove(c.tree, b, a) {
				return a, b, true
			}
		}
	}
	return 0, 0, false
}

// drawnLinks lets groups of voters link drawn pairs, mostly from a block that is linked already, and puts the links into a drawn order.
func drawnLinks(tree []impl.Block, stakes []int, many int, seed int) []impl.Link {
	pairs := linkablePairs(tree)
	if len(pairs) == 0 {
		return nil
	}
	reached := []int{0}
	var links []impl.Link
	for k := 0; len(links) < many; k++ {
		draw := drawnNumbers(4, math.MaxInt32, seed+11*k)
		near := slices.DeleteFunc(slices.Clone(pairs), func(pair [2]int) bool { return !slices.Contains(reached, pair[0]) })
		if draw[0]%5 == 0 {
			near = pairs
		}
		pair := near[draw[1]%len(near)]
		for voter := range stakes {
			// About one voter of five leaves out the link, and some links are there twice.
			if (draw[2]>>voter+voter)%5 != 0 {
				links = append(links, impl.Link{Who: voter, From: pair[0], To: pair[1]})
			}
		}
		if draw[3]%4 == 0 && len(links) > 0 {
			links = append(links, links[draw[3]%len(links)])
		}
		reached = append(reached, pair[1])
	}
	links = links[:many]
	for i, k := range drawnNumbers(many, max(many-1, 0), seed+5) {
		links[i], links[k] = links[k], links[i]
	}
	return links
}

// someLinks has links of every number for trees of every shape.
func someLinks() []linkCase {
	tr := forkTree()
	all := []int{0, 1, 2, 3, 4, 5, 6, 7, 8, 9}
	path := pathTree(impl.MaxBlocks)
	cases := []linkCase{
		{tr, []int{1, 1, 1}, exampleLinks()},
		{tr, []int{1, 1, 1}, nil},
		{pathTree(1), []int{1}, nil},
		{pathTree(2), repeated(1, impl.MaxVoters), linksOf(all, 0, 1)},
		{path, repeated(impl.MaxStake, impl.MaxVoters), slices.Concat(linksOf(all, 0, 21), linksOf(all[3:], 21, 22), linksOf(all[:7], 22, 23), linksOf(all[4:], 0, 20))},
		{path, []int{5}, linksBy([][3]int{{0, 22, 23}, {0, 0, 22}})},
	}
	var steps []impl.Link
	for b := 1; b < len(path); b++ {
		steps = append(steps, impl.Link{From: b - 1, To: b})
	}
	cases = append(cases, linkCase{path, []int{7}, steps}, linkCase{path, []int{4, 1}, steps})
	for seed, tree := range someTrees() {
		for k, stakes := range [][]int{{3}, {2, 1}, {1, 1, 1}, {5, 3, 9, 2}, repeated(7, 6)} {
			many := (seed*9 + k*17 + 8) % (impl.MaxLinks + 1)
			cases = append(cases, linkCase{tree, stakes, drawnLinks(tree, stakes, many, seed*5+k+1)})
		}
	}
	return cases
}

// smallLinks has every set of the links that are possible in a small tree: of one voter, of two of whom the first is a quorum, and of three.
func smallLinks() []linkCase {
	var cases []linkCase
	for _, tree := range smallTrees() {
		for _, stakes := range [][]int{{6}, {2, 1}, {1, 1, 1}} {
			var from []impl.Link
			for voter := range stakes {
				for _, pair := range linkablePairs(tree) {
					from = append(from, impl.Link{Who: voter, From: pair[0], To: pair[1]})
				}
			}
			if len(from) <= 10 {
				cases = append(cases, eachSetOf(tree, stakes, from)...)
			}
		}
	}
	return cases
}

// forkedLinks has every set of the links from a parent to a child in trees with several forks, so that final blocks conflict.
func forkedLinks() []linkCase {
	var cases []linkCase
	for _, tree := range [][]impl.Block{nestedTree(), treeBy(11, func(b int) int { return (b - 1) / 2 }), treeBy(10, func(b int) int { return max(b-3, 0) })} {
		var from []impl.Link
		for b := 1; b < len(tree); b++ {
			from = append(from, impl.Link{From: tree[b].Parent, To: b})
		}
		cases = append(cases, eachSetOf(tree, []int{4}, from)...)
	}
	return cases
}

// nestedTree has block 1 above 2 and 3, which have the children 5 and 6; block 4 stands apart and has the child 7.
func nestedTree() []impl.Block {
	return treeBy(8, func(b int) int { return []int{0, 0, 1, 1, 0, 2, 3, 4}[b] })
}

func eachSetOf(tree []impl.Block, stakes []int, from []impl.Link) []linkCase {
	var cases []linkCase
	for mask := range 1 << len(from) {
		var links []impl.Link
		for k, l := range from {
			if mask>>k&1 == 1 {
				links = append(links, l)
			}
		}
		cases = append(cases, linkCase{tree, stakes, links})
	}
	return cases
}

// checkLinks expects of the links what the document's words say of them.
func checkLinks(t *testing.T, c linkCase) {
	t.Helper()
	if !impl.GoodLinks(c.tree, c.stakes, c.links) {
		t.Fatalf("GoodLinks(%v, %v, %v) is false", c.tree, c.stakes, c.links)
	}
	want := plainJustified(c)
	if l, ok := impl.JustifiedIn(c.tree, c.stakes, c.links); !sameList(l, want) || !ok {
		t.Fatalf("JustifiedIn(%v, %v, %v) = %v, %v, want %v", c.tree, c.stakes, c.links, l, ok, want)
	}
	want = plainFinal(c)
	if l, ok := impl.FinalIn(c.tree, c.stakes, c.links); !sameList(l, want) || !ok {
		t.Fatalf("FinalIn(%v, %v, %v) = %v, %v, want %v", c.tree, c.stakes, c.links, l, ok, want)
	}
	highest := plainHighest(c)
	if b, ok := impl.HighestIn(c.tree, c.stakes, c.links); b != highest || !ok {
		t.Fatalf("HighestIn(%v, %v, %v) = %d, %v, want %d", c.tree, c.stakes, c.links, b, ok, highest)
	}
	wantA, wantB, is := plainConflict(c)
	if a, b, ok := impl.ConflictIn(c.tree, c.stakes, c.links); a != wantA || b != wantB || ok != is {
		t.Fatalf("ConflictIn(%v, %v, %v) = %d, %d, %v, want %d, %d, %v", c.tree, c.stakes, c.links, a, b, ok, wantA, wantB, is)
	}
}

// checkLinkOf expects of two blocks, which need not be linked, what the document's words say of them.
func checkLinkOf(t *testing.T, c linkCase, from int, to int) {
	t.Helper()
	want := plainWhoLinks(c, from, to)
	if who, ok := impl.WhoLinks(c.tree, c.stakes, c.links, from, to); !sameList(who, want) || !ok {
		t.Fatalf("WhoLinks(%v, %v, %v, %d, %d) = %v, %v, want %v", c.tree, c.stakes, c.links, from, to, who, ok, want)
	}
	linked := plainLinked(c, from, to)
	if is, ok := impl.IsLinked(c.tree, c.stakes, c.links, from, to); is != linked || !ok {
		t.Fatalf("IsLinked(%v, %v, %v, %d, %d) = %v, %v, want %v", c.tree, c.stakes, c.links, from, to, is, ok, linked)
	}
}

func TestLinkConstants(t *testing.T) {
	if impl.MaxLinks != 40 {
		t.Error(impl.MaxLinks)
	}
}

func TestLinkExamples(t *testing.T) {
	tr, s, l := forkTree(), []int{1, 1, 1}, exampleLinks()
	if !impl.GoodLinks(tr, s, l) {
		t.Error("GoodLinks is false")
	}
	if is, ok := impl.OneLink(tr, 0, 3); !is || !ok {
		t.Error("OneLink", is, ok)
	}
	if who, ok := impl.WhoLinks(tr, s, l, 0, 1); !sameList(who, []int{0, 1}) || !ok {
		t.Error("WhoLinks", who, ok)
	}
	if is, ok := impl.IsLinked(tr, s, l, 0, 2); is || !ok {
		t.Error("IsLinked", is, ok)
	}
	if j, ok := impl.JustifiedIn(tr, s, l); !sameList(j, []int{0, 1, 3}) || !ok {
		t.Error("JustifiedIn", j, ok)
	}
	if f, ok := impl.FinalIn(tr, s, l); !sameList(f, []int{0, 1}) || !ok {
		t.Error("FinalIn", f, ok)
	}
	if h, ok := impl.HighestIn(tr, s, l); h != 3 || !ok {
		t.Error("HighestIn", h, ok)
	}
	if a, b, ok := impl.ConflictIn(tr, s, l); a != 0 || b != 0 || ok {
		t.Error("ConflictIn", a, b, ok)
	}
}

func TestLinksOfEveryCase(t *testing.T) {
	for _, c := range someLinks() {
		checkLinks(t, c)
		for from := range c.tree {
			for to := range c.tree {
				checkLinkOf(t, c, from, to)
			}
		}
	}
}

func TestLinksOfEverySmallCase(t *testing.T) {
	for k, c := range slices.Concat(smallLinks(), forkedLinks()) {
		checkLinks(t, c)
		if k%5 != 0 {
			continue
		}
		for from := range c.tree {
			for to := range c.tree {
				checkLinkOf(t, c, from, to)
			}
		}
	}
}

// linkedFrom reports, by the package alone, whether one of the blocks is linked to the block b.
func linkedFrom(t *testing.T, c linkCase, from []int, b int) bool {
	t.Helper()
	any := false
	for _, a := range from {
		is, ok := impl.IsLinked(c.tree, c.stakes, c.links, a, b)
		if !ok {
			t.Fatalf("IsLinked(%v, %v, %v, %d, %d) is refused", c.tree, c.stakes, c.links, a, b)
		}
		any = any || is
	}
	return any
}

// TestPromise10JustifiedBlocks uses the package alone: a block is justified exactly if it is block 0 or linked by a quorum from a justified block.
func TestPromise10JustifiedBlocks(t *testing.T) {
	many, far, final, wasted := 0, 0, 0, 0
	for _, c := range slices.Concat(someLinks(), smallLinks(), forkedLinks()) {
		justified, okJustified := impl.JustifiedIn(c.tree, c.stakes, c.links)
		finals, okFinal := impl.FinalIn(c.tree, c.stakes, c.links)
		if !okJustified || !okFinal {
			t.Fatal(c, justified, okJustified, finals, okFinal)
		}
		for b := range c.tree {
			want := b == 0 || linkedFrom(t, c, justified, b)
			if slices.Contains(justified, b) != want {
				t.Fatalf("JustifiedIn(%v, %v, %v) = %v, but block %d is justified: %v", c.tree, c.stakes, c.links, justified, b, want)
			}
			if !want && len(c.links) > 0 && linkedFrom(t, c, blocksOf(c.tree), b) {
				wasted++
			}
		}
		for k, b := range finals {
			if !slices.Contains(justified, b) || k > 0 && finals[k-1] >= b {
				t.Fatalf("FinalIn(%v, %v, %v) = %v, but the justified blocks are %v", c.tree, c.stakes, c.links, finals, justified)
			}
		}
		if !slices.IsSorted(justified) || len(slices.Compact(slices.Clone(justified))) != len(justified) {
			t.Fatalf("JustifiedIn(%v, %v, %v) = %v", c.tree, c.stakes, c.links, justified)
		}
		many += len(justified) - 1
		final += len(finals)
		if len(justified) > 4 && len(finals) < len(justified)-1 {
			far++
		}
	}
	// The promise would be empty without justified blocks, and easy if no quorum linked from a block that is not justified.
	if many < 1000 || far < 20 || final < 1000 || wasted < 500 {
		t.Errorf("only %d justified and %d final blocks, %d long chains, %d quorums from other blocks", many, final, far, wasted)
	}
}

// TestConsecutiveCheckpoints: a link to a block whose depth is greater by one finalizes a justified block, and no longer link does.
func TestConsecutiveCheckpoints(t *testing.T) {
	near, far := 0, 0
	for _, tree := range someTrees() {
		for _, pair := range linkablePairs(tree) {
			from, to := pair[0], pair[1]
			links := linksAlong(pair)
			if from != 0 {
				links = linksAlong([2]int{0, from}, pair)
			}
			var want []int
			if tree[from].Parent == 0 {
				want = append(want, 0)
			}
			if tree[to].Parent == from {
				want = append(want, from)
				near++
			} else {
				far++
			}
			if final, ok := impl.FinalIn(tree, []int{3}, links); !sameList(final, want) || !ok {
				t.Fatalf("FinalIn(%v, %v) = %v, %v, want %v", tree, links, final, ok, want)
			}
		}
	}
	if near < 100 || far < 100 {
		t.Errorf("only %d links to the next depth and %d longer ones", near, far)
	}
}

func TestConsecutiveCheckpointCases(t *testing.T) {
	path := pathTree(5)
	cases := []struct {
		name             string
		links            []impl.Link
		justified, final []int
	}{
		{"no link", nil, []int{0}, nil},
		{"depth 1 from block 0", linksAlong([2]int{0, 1}), []int{0, 1}, []int{0}},
		{"depth 2 from block 0", linksAlong([2]int{0, 2}), []int{0, 2}, nil},
		{"depth 4 from block 0", linksAlong([2]int{0, 4}), []int{0, 4}, nil},
		{"depth 2, then 3", linksAlong([2]int{0, 2}, [2]int{2, 3}), []int{0, 2, 3}, []int{2}},
		{"depth 2, then 4", linksAlong([2]int{0, 2}, [2]int{2, 4}), []int{0, 2, 4}, nil},
		{"depth 2, then 3, which is justified from elsewhere alone", linksAlong([2]int{0, 2}, [2]int{0, 3}), []int{0, 2, 3}, nil},
		{"depths 1 and 2 from block 0", linksAlong([2]int{0, 1}, [2]int{0, 2}), []int{0, 1, 2}, []int{0}},
		{"depths 2 and 1 from block 0", linksAlong([2]int{0, 2}, [2]int{0, 1}), []int{0, 1, 2}, []int{0}},
		{"every step", linksAlong([2]int{0, 1}, [2]int{1, 2}, [2]int{2, 3}, [2]int{3, 4}), []int{0, 1, 2, 3, 4}, []int{0, 1, 2, 3}},
		{"every step but the first", linksAlong([2]int{1, 2}, [2]int{2, 3}, [2]int{3, 4}), []int{0}, nil},
		{"every step but the second", linksAlong([2]int{0, 1}, [2]int{2, 3}, [2]int{3, 4}), []int{0, 1}, []int{0}},
		{"the second step left out and passed over", linksAlong([2]int{0, 1}, [2]int{2, 3}, [2]int{3, 4}, [2]int{1, 3}), []int{0, 1, 3, 4}, []int{0, 3}},
	}
	for _, c := range cases {
		if l, ok := impl.JustifiedIn(path, []int{1}, c.links); !sameList(l, c.justified) || !ok {
			t.Errorf("%s: JustifiedIn = %v, %v, want %v", c.name, l, ok, c.justified)
		}
		if l, ok := impl.FinalIn(path, []int{1}, c.links); !sameList(l, c.final) || !ok {
			t.Errorf("%s: FinalIn = %v, %v, want %v", c.name, l, ok, c.final)
		}
	}
}

// TestFinalNeedsOneQuorum: two children that have half of a quorum each do not make their parent final.
func TestFinalNeedsOneQuorum(t *testing.T) {
	tree, stakes := starTree(4), []int{1, 1, 1}
	links := linksBy([][3]int{{0, 0, 1}, {1, 0, 2}, {2, 0, 3}})
	for _, many := range []int{1, 2, 3} {
		if l, ok := impl.FinalIn(tree, stakes, links[:many]); len(l) != 0 || !ok {
			t.Errorf("FinalIn(%v) = %v, %v", links[:many], l, ok)
		}
	}
	// The last child has a quorum, and the others have not.
	if l, ok := impl.FinalIn(tree, stakes, append(links, impl.Link{Who: 1, From: 0, To: 3})); !sameList(l, []int{0}) || !ok {
		t.Errorf("FinalIn = %v, %v", l, ok)
	}
}

// TestLinksFromUnjustifiedBlocks: they justify nothing and finalize nothing, whatever their quorum.
func TestLinksFromUnjustifiedBlocks(t *testing.T) {
	for _, tree := range someTrees() {
		var links []impl.Link
		for _, pair := range linkablePairs(tree) {
			if pair[0] == 0 {
				continue
			}
			one := linksAlong(pair)
			checkNothingJustified(t, tree, one)
			if len(links) < impl.MaxLinks {
				links = append(links, one...)
			}
		}
		checkNothingJustified(t, tree, links)
	}
}

func checkNothingJustified(t *testing.T, tree []impl.Block, links []impl.Link) {
	t.Helper()
	stakes := []int{2}
	if l, ok := impl.JustifiedIn(tree, stakes, links); !sameList(l, []int{0}) || !ok {
		t.Fatalf("JustifiedIn(%v, %v) = %v, %v", tree, links, l, ok)
	}
	if l, ok := impl.FinalIn(tree, stakes, links); len(l) != 0 || !ok {
		t.Fatalf("FinalIn(%v, %v) = %v, %v", tree, links, l, ok)
	}
	if b, ok := impl.HighestIn(tree, stakes, links); b != 0 || !ok {
		t.Fatalf("HighestIn(%v, %v) = %d, %v", tree, links, b, ok)
	}
	if a, b, ok := impl.ConflictIn(tree, stakes, links); a != 0 || b != 0 || ok {
		t.Fatalf("ConflictIn(%v, %v) = %d, %d, %v", tree, links, a, b, ok)
	}
}

// TestUnjustifiedQuorumBesideAJustifiedOne: a link without a quorum from block 0 does not make the later quorum count.
func TestUnjustifiedQuorumBesideAJustifiedOne(t *testing.T) {
	path, s := pathTree(4), []int{1, 1, 1}
	both := []int{0, 1}
	cases := []struct {
		links []impl.Link
		want  []int
	}{
		{slices.Concat(linksOf(both, 1, 2), linksOf([]int{0}, 0, 1)), []int{0}},
		{slices.Concat(linksOf(both, 1, 2), linksOf([]int{2}, 0, 1), linksOf(both, 2, 3)), []int{0}},
		{slices.Concat(linksOf(both, 1, 2), linksOf([]int{2, 0}, 0, 1)), []int{0, 1, 2}},
		{slices.Concat(linksOf(both, 1, 2), linksOf([]int{2, 0}, 0, 2)), []int{0, 2}},
		{slices.Concat(linksOf(both, 1, 3), linksOf(both, 2, 3), linksOf([]int{2, 0}, 0, 2)), []int{0, 2, 3}},
	}
	for _, c := range cases {
		if l, ok := impl.JustifiedIn(path, s, c.links); !sameList(l, c.want) || !ok {
			t.Errorf("JustifiedIn(%v) = %v, %v, want %v", c.links, l, ok, c.want)
		}
	}
}

// eachOrder calls use with every order of the list.
func eachOrder[T any](l []T, use func(l []T)) {
	if len(l) == 0 {
		use(nil)
		return
	}
	for k, first := range l {
		rest := slices.Delete(slices.Clone(l), k, k+1)
		eachOrder(rest, func(others []T) { use(append([]T{first}, others...)) })
	}
}

// TestPromise10ChainInAnyOrder: a chain justifies its last block, in whatever order its links stand in the list.
func TestPromise10ChainInAnyOrder(t *testing.T) {
	orders := 0
	eachOrder(slices.Concat(linksOf([]int{0, 1}, 0, 1), linksOf([]int{1, 2}, 1, 3), linksOf([]int{0, 2}, 3, 4)), func(links []impl.Link) {
		orders++
		c := linkCase{exampleTree(), []int{1, 1, 1}, links}
		if l, ok := impl.JustifiedIn(c.tree, c.stakes, c.links); !sameList(l, []int{0, 1, 3, 4}) || !ok {
			t.Fatalf("JustifiedIn(%v) = %v, %v", links, l, ok)
		}
		if l, ok := impl.FinalIn(c.tree, c.stakes, c.links); !sameList(l, []int{0, 1, 3}) || !ok {
			t.Fatalf("FinalIn(%v) = %v, %v", links, l, ok)
		}
		if b, ok := impl.HighestIn(c.tree, c.stakes, c.links); b != 4 || !ok {
			t.Fatalf("HighestIn(%v) = %d, %v", links, b, ok)
		}
		if who, ok := impl.WhoLinks(c.tree, c.stakes, c.links, 1, 3); !sameList(who, []int{1, 2}) || !ok {
			t.Fatalf("WhoLinks(%v) = %v, %v", links, who, ok)
		}
	})
	if orders != 720 {
		t.Error(orders)
	}
}

// TestPromise10LongChains has chains over the whole path in steps of each width, forwards and backwards in the list.
func TestPromise10LongChains(t *testing.T) {
	path := pathTree(impl.MaxBlocks)
	for width := 1; width < impl.MaxBlocks; width++ {
		var links []impl.Link
		want := []int{0}
		for b := width; b < impl.MaxBlocks; b += width {
			links = append(links, impl.Link{From: b - width, To: b})
			want = append(want, b)
		}
		for range 2 {
			if l, ok := impl.JustifiedIn(path, []int{9}, links); !sameList(l, want) || !ok {
				t.Fatalf("JustifiedIn(path, %v) = %v, %v, want %v", links, l, ok, want)
			}
			// A chain without one of its links ends there.
			for k := range links {
				short := slices.Delete(slices.Clone(links), k, k+1)
				if l, ok := impl.JustifiedIn(path, []int{9}, short); !sameList(l, want[:links[k].To/width]) || !ok {
					t.Fatalf("JustifiedIn(path, %v) = %v, %v, want %v", short, l, ok, want[:links[k].To/width])
				}
			}
			slices.Reverse(links)
		}
	}
}

func TestLinksAtTwoThirds(t *testing.T) {
	cases := []struct {
		stakes []int
		who    []int
		linked bool
	}{
		{[]int{1, 1, 1}, []int{0, 1}, true},
		{[]int{1, 1, 1}, []int{0, 2}, true},
		{[]int{1, 1, 1}, []int{1, 2}, true},
		{[]int{1, 1, 1}, []int{2}, false},
		{[]int{1, 1, 1}, nil, false},
		{[]int{2, 1}, []int{0}, true},
		{[]int{2, 1}, []int{1}, false},
		{[]int{1, 1}, []int{0}, false},
		{[]int{1, 1}, []int{0, 1}, true},
		{[]int{1}, []int{0}, true},
		{[]int{2, 1, 1}, []int{0}, false},
		{[]int{2, 1, 1}, []int{0, 2}, true},
		{[]int{3, 1, 1}, []int{0}, false},
		{[]int{4, 1, 1}, []int{0}, true},
		{[]int{1000, 1000, 1000}, []int{0, 2}, true},
		{[]int{1000, 999, 1000, 1}, []int{0, 1}, false},
		{[]int{1000, 999, 1000, 1}, []int{0, 2}, true},
		{[]int{1000, 999, 1000, 1}, []int{1, 2}, false},
		{[]int{1000, 999, 1000, 1}, []int{1, 2, 3}, true},
		{repeated(1, 9), []int{0, 1, 2, 3, 4, 5}, true},
		{repeated(1, 9), []int{0, 1, 2, 3, 4}, false},
		{repeated(1000, 10), []int{0, 1, 2, 3, 4, 5}, false},
		{repeated(1000, 10), []int{3, 4, 5, 6, 7, 8, 9}, true},
	}
	for _, c := range cases {
		links := linksOf(c.who, 0, 1)
		justified, final := []int{0}, []int(nil)
		if c.linked {
			justified, final = []int{0, 1}, []int{0}
		}
		if is, ok := impl.IsLinked(pathTree(2), c.stakes, links, 0, 1); is != c.linked || !ok {
			t.Errorf("IsLinked of %v by %v = %v, %v", c.stakes, c.who, is, ok)
		}
		if l, ok := impl.JustifiedIn(pathTree(2), c.stakes, links); !sameList(l, justified) || !ok {
			t.Errorf("JustifiedIn of %v by %v = %v, %v", c.stakes, c.who, l, ok)
		}
		if l, ok := impl.FinalIn(pathTree(2), c.stakes, links); !sameList(l, final) || !ok {
			t.Errorf("FinalIn of %v by %v = %v, %v", c.stakes, c.who, l, ok)
		}
	}
}

func TestLinksOfEveryGroup(t *testing.T) {
	for _, stakes := range [][]int{{1}, {2, 1}, {5, 3, 9, 2}, {2, 2, 2, 1, 1, 1}, {1, 2, 3, 4, 5, 6, 7, 8, 9, 10}, repeated(1, impl.MaxVoters)} {
		for _, group := range groupsUpTo(len(stakes)) {
			links := linksOf(group, 0, 2)
			slices.Reverse(links)
			c := linkCase{pathTree(3), stakes, links}
			checkLinkOf(t, c, 0, 2)
			checkLinks(t, c)
		}
	}
}

// TestRepeatedLinksCountOnce: a voter whose link occurs more than once counts once.
func TestRepeatedLinksCountOnce(t *testing.T) {
	tree, stakes := pathTree(2), []int{1, 1, 1}
	for many := 1; many <= impl.MaxLinks; many++ {
		links := slices.Repeat(linksOf([]int{2}, 0, 1), many)
		if who, ok := impl.WhoLinks(tree, stakes, links, 0, 1); !sameList(who, []int{2}) || !ok {
			t.Errorf("WhoLinks of %d equal links = %v, %v", many, who, ok)
		}
		checkLinks(t, linkCase{tree, stakes, links})
		if is, ok := impl.IsLinked(tree, stakes, links, 0, 1); is || !ok {
			t.Errorf("IsLinked by %d equal links = %v, %v", many, is, ok)
		}
		if l, ok := impl.JustifiedIn(tree, stakes, links); !sameList(l, []int{0}) || !ok {
			t.Errorf("JustifiedIn of %d equal links = %v, %v", many, l, ok)
		}
		// One link of another voter, at either end, makes the quorum.
		links[0].Who = 0
		checkTwoLink(t, linkCase{tree, stakes, links}, many > 1)
		slices.Reverse(links)
		checkTwoLink(t, linkCase{tree, stakes, links}, many > 1)
	}
	// Equal links that are not neighbours.
	mixed := linksBy([][3]int{{2, 0, 1}, {0, 0, 1}, {2, 0, 1}, {0, 0, 1}, {2, 0, 1}})
	checkTwoLink(t, linkCase{tree, stakes, mixed}, true)
}

// checkTwoLink expects the voters 0 and 2 to link block 1, or voter 0 alone.
func checkTwoLink(t *testing.T, c linkCase, both bool) {
	t.Helper()
	want := []int{0}
	if both {
		want = []int{0, 2}
	}
	if who, ok := impl.WhoLinks(c.tree, c.stakes, c.links, 0, 1); !sameList(who, want) || !ok {
		t.Errorf("WhoLinks(%v) = %v, %v, want %v", c.links, who, ok, want)
	}
	if is, ok := impl.IsLinked(c.tree, c.stakes, c.links, 0, 1); is != both || !ok {
		t.Errorf("IsLinked(%v) = %v, %v, want %v", c.links, is, ok, both)
	}
}

// TestQuorumsAreOfOnePair: voters that link a block from different blocks, or different blocks from one, are no quorum together.
func TestQuorumsAreOfOnePair(t *testing.T) {
	path, s := pathTree(4), []int{1, 1, 1}
	toOne := linksOf([]int{0, 1}, 0, 1)
	cases := []struct {
		links []impl.Link
		want  []int
	}{
		{append(linksBy([][3]int{{0, 0, 2}, {1, 1, 2}}), toOne...), []int{0, 1}},
		{append(linksBy([][3]int{{0, 0, 2}, {1, 1, 2}, {2, 0, 2}}), toOne...), []int{0, 1, 2}},
		{append(linksBy([][3]int{{0, 0, 2}, {1, 1, 2}, {2, 1, 2}}), toOne...), []int{0, 1, 2}},
		{append(linksBy([][3]int{{0, 0, 3}, {1, 1, 3}, {2, 2, 3}}), toOne...), []int{0, 1}},
		{linksBy([][3]int{{0, 0, 1}, {1, 0, 2}, {2, 0, 3}}), []int{0}},
		{linksBy([][3]int{{0, 0, 1}, {1, 0, 2}, {2, 0, 3}, {1, 0, 3}}), []int{0, 3}},
	}
	for _, c := range cases {
		if l, ok := impl.JustifiedIn(path, s, c.links); !sameList(l, c.want) || !ok {
			t.Errorf("JustifiedIn(%v) = %v, %v, want %v", c.links, l, ok, c.want)
		}
	}
}

// TestWhoLinksWithoutALink: two blocks without a link, a link the other way, and a block and itself.
func TestWhoLinksWithoutALink(t *testing.T) {
	tr, s := forkTree(), []int{1, 1, 1}
	for _, links := range [][]impl.Link{nil, exampleLinks()} {
		for from := range tr {
			for to := range tr {
				if slices.ContainsFunc(links, func(l impl.Link) bool { return l.From == from && l.To == to }) {
					continue
				}
				if who, ok := impl.WhoLinks(tr, s, links, from, to); len(who) != 0 || !ok {
					t.Errorf("WhoLinks(%v, %d, %d) = %v, %v", links, from, to, who, ok)
				}
				if is, ok := impl.IsLinked(tr, s, links, from, to); is || !ok {
					t.Errorf("IsLinked(%v, %d, %d) = %v, %v", links, from, to, is, ok)
				}
			}
		}
	}
}

func TestOneLinkOfEveryPair(t *testing.T) {
	for _, tree := range someTrees() {
		for from := range tree {
			for to := range tree {
				want := plainOneLink(tree, from, to)
				if is, ok := impl.OneLink(tree, from, to); is != want || !ok {
					t.Fatalf("OneLink(%v, %d, %d) = %v, %v, want %v", tree, from, to, is, ok, want)
				}
				// The links that are valid are exactly these.
				if is := impl.GoodLinks(tree, []int{1}, linksAlong([2]int{from, to})); is != want {
					t.Fatalf("GoodLinks(%v) of a link from %d to %d is %v", tree, from, to, is)
				}
			}
		}
	}
}

func TestHighestCases(t *testing.T) {
	tr, binary := forkTree(), treeBy(15, func(b int) int { return (b - 1) / 2 })
	arms := armedTree(4, 9)
	cases := []struct {
		name  string
		tree  []impl.Block
		links []impl.Link
		want  int
	}{
		{"no link", tr, nil, 0},
		{"one block", pathTree(1), nil, 0},
		{"one child", tr, linksAlong([2]int{0, 1}), 1},
		{"both children", tr, linksAlong([2]int{0, 1}, [2]int{0, 2}), 2},
		{"both children the other way round", tr, linksAlong([2]int{0, 2}, [2]int{0, 1}), 2},
		{"the deeper block has the lesser index", tr, linksAlong([2]int{0, 4}, [2]int{0, 3}), 4},
		{"a block that is less deep has a greater index", exampleTree(), linksAlong([2]int{0, 1}, [2]int{0, 2}, [2]int{0, 4}), 4},
		{"a lesser index, but deeper", treeBy(4, func(b int) int { return []int{0, 0, 1, 0}[b] }), linksAlong([2]int{0, 2}, [2]int{0, 3}), 2},
		{"four of depth 3", binary, linksAlong([2]int{0, 9}, [2]int{0, 12}, [2]int{0, 7}, [2]int{0, 11}), 12},
		{"all of depth 3", binary, linksAlong([2]int{0, 7}, [2]int{0, 8}, [2]int{0, 9}, [2]int{0, 10}, [2]int{0, 11}, [2]int{0, 12}, [2]int{0, 13}, [2]int{0, 14}), 14},
		{"the deepest one is not justified", binary, linksAlong([2]int{0, 5}, [2]int{0, 4}, [2]int{6, 14}), 5},
		{"the last block of the first arm is deeper than the next ones", arms, linksAlong([2]int{0, 8}, [2]int{0, 9}, [2]int{0, 11}), 8},
		{"the second arm is as deep", arms, linksAlong([2]int{0, 8}, [2]int{0, 9}, [2]int{0, 12}), 12},
	}
	for _, c := range cases {
		if b, ok := impl.HighestIn(c.tree, []int{1}, c.links); b != c.want || !ok {
			t.Errorf("%s: HighestIn(%v, %v) = %d, %v, want %d", c.name, c.tree, c.links, b, ok, c.want)
		}
	}
}

// TestHighestOfEveryRow justifies some blocks of a star, all of which have the same depth.
func TestHighestOfEveryRow(t *testing.T) {
	tree := starTree(9)
	for mask := range 1 << 8 {
		var links []impl.Link
		want := 0
		for b := 1; b < len(tree); b++ {
			if mask>>(b-1)&1 == 1 {
				links = append(links, impl.Link{To: b})
				want = b
			}
		}
		for range 2 {
			if b, ok := impl.HighestIn(tree, []int{1}, links); b != want || !ok {
				t.Fatalf("HighestIn(%v) = %d, %v, want %d", links, b, ok, want)
			}
			slices.Reverse(links)
		}
	}
}

func TestConflictCases(t *testing.T) {
	nested := nestedTree()
	three := treeBy(7, func(b int) int { return []int{0, 0, 0, 0, 1, 2, 3}[b] })
	deep := treeBy(6, func(b int) int { return []int{0, 0, 1, 2, 0, 4}[b] })
	path := pathTree(6)
	cases := []struct {
		name  string
		tree  []impl.Block
		links []impl.Link
		final []int
		a, b  int
		is    bool
	}{
		{"no link", three, nil, nil, 0, 0, false},
		{"block 0 alone is final", three, linksAlong([2]int{0, 1}, [2]int{0, 2}, [2]int{0, 3}), []int{0}, 0, 0, false},
		{"one block of three is final", three, linksAlong([2]int{0, 1}, [2]int{0, 2}, [2]int{0, 3}, [2]int{2, 5}), []int{0, 2}, 0, 0, false},
		{"the first two of three", three, linksAlong([2]int{0, 1}, [2]int{0, 2}, [2]int{2, 5}, [2]int{1, 4}), []int{0, 1, 2}, 1, 2, true},
		{"the last two of three", three, linksAlong([2]int{0, 3}, [2]int{0, 2}, [2]int{2, 5}, [2]int{3, 6}), []int{0, 2, 3}, 2, 3, true},
		{"the first and the last of three", three, linksAlong([2]int{0, 3}, [2]int{0, 1}, [2]int{1, 4}, [2]int{3, 6}), []int{0, 1, 3}, 1, 3, true},
		{"all three", three, linksAlong([2]int{0, 3}, [2]int{0, 1}, [2]int{1, 4}, [2]int{3, 6}, [2]int{0, 2}, [2]int{2, 5}), []int{0, 1, 2, 3}, 1, 2, true},
		{"the pairs 1 and 4, 2 and 3, 2 and 4, 3 and 4", nested, linksAlong([2]int{0, 1}, [2]int{1, 2}, [2]int{1, 3}, [2]int{0, 4}, [2]int{2, 5}, [2]int{3, 6}, [2]int{4, 7}), []int{0, 1, 2, 3, 4}, 1, 4, true},
		{"the pair 2 and 3 below 1", nested, linksAlong([2]int{0, 1}, [2]int{1, 2}, [2]int{1, 3}, [2]int{2, 5}, [2]int{3, 6}), []int{0, 1, 2, 3}, 2, 3, true},
		{"the pairs 2 and 3, 2 and 4, 3 and 4", nested, linksAlong([2]int{0, 2}, [2]int{0, 3}, [2]int{0, 4}, [2]int{2, 5}, [2]int{3, 6}, [2]int{4, 7}), []int{0, 2, 3, 4}, 2, 3, true},
		{"the pairs 1 and 4, 3 and 4", nested, linksAlong([2]int{0, 1}, [2]int{1, 3}, [2]int{0, 4}, [2]int{3, 6}, [2]int{4, 7}), []int{0, 1, 3, 4}, 1, 4, true},
		{"of different depth", deep, linksAlong([2]int{0, 2}, [2]int{2, 3}, [2]int{0, 4}, [2]int{4, 5}), []int{0, 2, 4}, 2, 4, true},
		{"of different depth, block 0 not final", deep, linksAlong([2]int{0, 2}, [2]int{2, 3}, [2]int{0, 5}), []int{2}, 0, 0, false},
		{"all above one another", path, linksAlong([2]int{0, 1}, [2]int{1, 2}, [2]int{2, 3}, [2]int{3, 4}, [2]int{4, 5}), []int{0, 1, 2, 3, 4}, 0, 0, false},
		{"above one another with gaps", path, linksAlong([2]int{0, 1}, [2]int{1, 3}, [2]int{3, 4}, [2]int{0, 5}), []int{0, 3}, 0, 0, false},
		{"above one another in a tree", nested, linksAlong([2]int{0, 1}, [2]int{1, 3}, [2]int{3, 6}, [2]int{1, 2}, [2]int{0, 4}), []int{0, 1, 3}, 0, 0, false},
	}
	for _, c := range cases {
		if l, ok := impl.FinalIn(c.tree, []int{1}, c.links); !sameList(l, c.final) || !ok {
			t.Errorf("%s: FinalIn(%v, %v) = %v, %v, want %v", c.name, c.tree, c.links, l, ok, c.final)
		}
		if a, b, ok := impl.ConflictIn(c.tree, []int{1}, c.links); a != c.a || b != c.b || ok != c.is {
			t.Errorf("%s: ConflictIn(%v, %v) = %d, %d, %v, want %d, %d, %v", c.name, c.tree, c.links, a, b, ok, c.a, c.b, c.is)
		}
	}
}

// TestConflictsAreReal uses the package alone: the two blocks are final, and no meet of theirs is one of them.
func TestConflictsAreReal(t *testing.T) {
	found, none := 0, 0
	for _, c := range slices.Concat(someLinks(), smallLinks(), forkedLinks()) {
		final, _ := impl.FinalIn(c.tree, c.stakes, c.links)
		a, b, is := impl.ConflictIn(c.tree, c.stakes, c.links)
		meet, _ := impl.MeetOf(c.tree, a, b)
		if is {
			found++
			if !slices.Contains(final, a) || !slices.Contains(final, b) || a >= b || meet == a || meet == b {
				t.Fatalf("ConflictIn(%v, %v, %v) = %d, %d, but the final blocks are %v", c.tree, c.stakes, c.links, a, b, final)
			}
			continue
		}
		for i := range final {
			for k := range i {
				if above, ok := impl.IsAbove(c.tree, final[k], final[i]); !above || !ok {
					t.Fatalf("ConflictIn(%v, %v, %v) is false, but the final blocks are %v", c.tree, c.stakes, c.links, final)
				}
			}
		}
		if len(final) > 2 {
			none++
		}
	}
	if found < 100 || none < 100 {
		t.Errorf("only %d conflicts and %d chains of final blocks without one", found, none)
	}
}

// TestLinksAtTheLimit: every one of MaxLinks links counts, and one more is refused.
func TestLinksAtTheLimit(t *testing.T) {
	tree, stakes := pathTree(3), []int{1, 1, 1}
	for at := range impl.MaxLinks {
		links := slices.Repeat(linksBy([][3]int{{0, 0, 1}}), impl.MaxLinks)
		links[at].Who = 1
		c := linkCase{tree, stakes, links}
		checkLinks(t, c)
		if l, ok := impl.JustifiedIn(tree, stakes, links); !sameList(l, []int{0, 1}) || !ok {
			t.Errorf("JustifiedIn of MaxLinks links = %v, %v, but link %d makes the quorum", l, ok, at)
		}
		for _, more := range []int{1, 2, 100} {
			checkLinksRefused(t, tree, stakes, append(slices.Clone(links), slices.Repeat(links[at:at+1], more)...))
		}
	}
	path := pathTree(impl.MaxBlocks)
	var different []impl.Link
	for k, pair := range linkablePairs(path) {
		different = append(different, impl.Link{Who: k % 3, From: pair[0], To: pair[1]})
	}
	for many := range impl.MaxLinks + 6 {
		if many <= impl.MaxLinks {
			checkLinks(t, linkCase{path, stakes, different[:many]})
			continue
		}
		checkLinksRefused(t, path, stakes, different[:many])
	}
}

// badLink is a list of links that is not valid for the example's tree and three voters, with the reason.
type badLink struct {
	why   string
	links []impl.Link
}

// badLinks are the example's links with one more, which is not valid, at either end or in between, and too many links.
func badLinks() []badLink {
	var bad []badLink
	add := func(why string, l impl.Link) {
		bad = append(bad, badLink{why, []impl.Link{l}})
		for _, at := range []int{0, 2, 4} {
			bad = append(bad, badLink{why, slices.Insert(exampleLinks(), at, l)})
		}
		full := slices.Repeat(exampleLinks(), impl.MaxLinks/4)
		full[impl.MaxLinks-1] = l
		bad = append(bad, badLink{why, full})
	}
	for _, who := range []int{-1, -3, 3, 4, impl.MaxVoters - 1, impl.MaxVoters, math.MaxInt, math.MinInt} {
		add("a voter that the stakes do not have", impl.Link{Who: who, From: 0, To: 1})
	}
	for _, b := range badBlocks(forkTree()) {
		add("a From that is no block", impl.Link{From: b, To: 1})
		add("a To that is no block", impl.Link{From: 0, To: b})
		add("no block at all", impl.Link{From: b, To: b})
	}
	for b := range forkTree() {
		add("equal blocks", impl.Link{Who: 1, From: b, To: b})
	}
	for _, pair := range [][2]int{{1, 2}, {2, 1}, {1, 4}, {4, 1}, {2, 3}, {3, 2}, {3, 4}, {4, 3}} {
		add("blocks neither of which is above the other", impl.Link{Who: 2, From: pair[0], To: pair[1]})
	}
	for _, pair := range [][2]int{{1, 0}, {2, 0}, {3, 0}, {4, 0}, {3, 1}, {4, 2}} {
		add("a link upwards", impl.Link{From: pair[0], To: pair[1]})
	}
	add("the zero link", impl.Link{})
	for _, more := range []int{1, 2, 200} {
		bad = append(bad, badLink{"too many links", slices.Repeat(linksBy([][3]int{{0, 0, 1}}), impl.MaxLinks+more)})
	}
	return bad
}

// checkLinkOfRefused expects the zero result of the functions that are given two blocks beside the links.
func checkLinkOfRefused(t *testing.T, tree []impl.Block, stakes []int, links []impl.Link, from int, to int) {
	t.Helper()
	if who, ok := impl.WhoLinks(tree, stakes, links, from, to); len(who) != 0 || ok {
		t.Errorf("WhoLinks(%v, %v, %v, %d, %d) = %v, %v", tree, stakes, links, from, to, who, ok)
	}
	if is, ok := impl.IsLinked(tree, stakes, links, from, to); is || ok {
		t.Errorf("IsLinked(%v, %v, %v, %d, %d) = %v, %v", tree, stakes, links, from, to, is, ok)
	}
}

// checkLinksRefused expects the zero result of every function that is given the links.
func checkLinksRefused(t *testing.T, tree []impl.Block, stakes []int, links []impl.Link) {
	t.Helper()
	if impl.GoodLinks(tree, stakes, links) {
		t.Errorf("GoodLinks(%v, %v, %v) is true", tree, stakes, links)
	}
	if l, ok := impl.JustifiedIn(tree, stakes, links); len(l) != 0 || ok {
		t.Errorf("JustifiedIn(%v, %v, %v) = %v, %v", tree, stakes, links, l, ok)
	}
	if l, ok := impl.FinalIn(tree, stakes, links); len(l) != 0 || ok {
		t.Errorf("FinalIn(%v, %v, %v) = %v, %v", tree, stakes, links, l, ok)
	}
	if b, ok := impl.HighestIn(tree, stakes, links); b != 0 || ok {
		t.Errorf("HighestIn(%v, %v, %v) = %d, %v", tree, stakes, links, b, ok)
	}
	if a, b, ok := impl.ConflictIn(tree, stakes, links); a != 0 || b != 0 || ok {
		t.Errorf("ConflictIn(%v, %v, %v) = %d, %d, %v", tree, stakes, links, a, b, ok)
	}
	for _, pair := range [][2]int{{0, 0}, {0, 1}, {1, 0}, {1, 3}, {0, len(tree)}, {-1, 0}} {
		checkLinkOfRefused(t, tree, stakes, links, pair[0], pair[1])
	}
}

func TestPromise19InvalidLinks(t *testing.T) {
	for _, bad := range badLinks() {
		if impl.GoodLinks(forkTree(), []int{1, 1, 1}, bad.links) {
			t.Errorf("GoodLinks is true of %v: %s", bad.links, bad.why)
		}
		checkLinksRefused(t, forkTree(), []int{1, 1, 1}, bad.links)
	}
}

// TestPromise19LinksThatConflict: links that are not valid have no conflict either, though the others alone have one.
func TestPromise19LinksThatConflict(t *testing.T) {
	good := linksAlong([2]int{0, 1}, [2]int{1, 3}, [2]int{0, 2}, [2]int{2, 4})
	if a, b, ok := impl.ConflictIn(forkTree(), []int{1}, good); a != 1 || b != 2 || !ok {
		t.Error(a, b, ok)
	}
	for _, l := range []impl.Link{{Who: 1, From: 0, To: 1}, {Who: -1, From: 0, To: 1}, {From: 1, To: 2}, {From: 0, To: 5}, {}} {
		checkLinksRefused(t, forkTree(), []int{1}, append(slices.Clone(good), l))
		checkLinksRefused(t, forkTree(), []int{1}, append([]impl.Link{l}, good...))
	}
}

func TestPromise19LinksOfInvalidTrees(t *testing.T) {
	for _, bad := range badTrees() {
		for _, links := range [][]impl.Link{nil, {}, linksAlong([2]int{0, 1}), exampleLinks()} {
			checkLinksRefused(t, bad.tree, []int{1, 1, 1}, links)
		}
		for _, b := range append(badBlocks(bad.tree), 0, 1, 2, 3, 4, 23) {
			checkOneLinkRefused(t, bad.tree, 0, b)
			checkOneLinkRefused(t, bad.tree, b, 1)
			checkOneLinkRefused(t, bad.tree, b, b)
		}
	}
}

func TestPromise19LinksOfInvalidStakes(t *testing.T) {
	for _, stakes := range badStakes() {
		for _, links := range [][]impl.Link{nil, {}, linksAlong([2]int{0, 1}), exampleLinks()} {
			checkLinksRefused(t, forkTree(), stakes, links)
		}
		checkLinksRefused(t, pathTree(1), stakes, nil)
	}
	checkLinksRefused(t, nil, nil, nil)
}

// TestPromise19LinksOfOthers: links are valid for their own tree and stakes, not for fewer blocks or voters.
func TestPromise19LinksOfOthers(t *testing.T) {
	tr, s, links := forkTree(), []int{1, 1, 1}, exampleLinks()
	checkLinksRefused(t, tr[:3], s, links)
	checkLinksRefused(t, tr[:1], s, links)
	checkLinksRefused(t, exampleTree(), s, linksAlong([2]int{2, 4}))
	checkLinksRefused(t, tr, s[:1], links)
	checkLinks(t, linkCase{tr[:4], s[:2], links})
	checkLinks(t, linkCase{exampleTree(), repeated(1, impl.MaxVoters), links})
	for voters := 1; voters <= impl.MaxVoters; voters++ {
		last := []impl.Link{{Who: voters - 1, From: 0, To: 1}}
		checkLinks(t, linkCase{tr, repeated(1, voters), last})
		last[0].Who++
		checkLinksRefused(t, tr, repeated(1, voters), last)
	}
}

func TestPromise19LinksOfNoBlocks(t *testing.T) {
	for _, c := range someLinks() {
		for _, b := range badBlocks(c.tree) {
			for _, other := range []int{0, len(c.tree) - 1, b} {
				checkLinkOfRefused(t, c.tree, c.stakes, c.links, b, other)
				checkLinkOfRefused(t, c.tree, c.stakes, c.links, other, b)
				checkOneLinkRefused(t, c.tree, b, other)
				checkOneLinkRefused(t, c.tree, other, b)
			}
		}
	}
}

func checkOneLinkRefused(t *testing.T, tree []impl.Block, from int, to int) {
	t.Helper()
	if is, ok := impl.OneLink(tree, from, to); is || ok {
		t.Errorf("OneLink(%v, %d, %d) = %v, %v", tree, from, to, is, ok)
	}
}

// spareLink could stand in any list for a tree of two or more blocks, and could complete a quorum of two of three voters.
var spareLink = impl.Link{Who: 0, From: 0, To: 1}

// TestPromise19LinksBehindTheLength: what is behind the length of an argument is no link, no stake and no block.
func TestPromise19LinksBehindTheLength(t *testing.T) {
	for _, c := range someLinks() {
		checkLinks(t, linkCase{roomyWith(c.tree, spareBlock(c.tree)), roomy(c.stakes), roomyWith(c.links, spareLink)})
	}
	tree, stakes := roomyWith(pathTree(2), impl.Block{Parent: 0, Slot: 9}), roomyWith([]int{1, 1, 1}, 1)
	links := roomyWith(linksBy([][3]int{{1, 0, 1}}), spareLink)
	if l, ok := impl.JustifiedIn(tree, stakes, links); !sameList(l, []int{0}) || !ok {
		t.Error("JustifiedIn", l, ok)
	}
	if who, ok := impl.WhoLinks(tree, stakes, links, 0, 1); !sameList(who, []int{1}) || !ok {
		t.Error("WhoLinks", who, ok)
	}
	// Neither the block nor the voter behind the length can be linked or link.
	checkLinksRefused(t, tree, stakes, linksBy([][3]int{{0, 0, 2}}))
	checkLinksRefused(t, tree, stakes, linksBy([][3]int{{3, 0, 1}}))
	checkLinkOfRefused(t, tree, stakes, links, 0, 2)
	checkOneLinkRefused(t, tree, 0, 2)
	checkLinksRefused(t, tree[:0], stakes, nil)
	checkLinksRefused(t, tree, stakes[:0], nil)
	full := roomyWith(slices.Repeat(links, impl.MaxLinks), spareLink)
	checkLinks(t, linkCase{tree, stakes, full})
}

// keptLinks are valid and not valid in every argument.
func keptLinks() []linkCase {
	cases := someLinks()
	for _, bad := range badTrees() {
		cases = append(cases, linkCase{bad.tree, []int{1, 1, 1}, exampleLinks()})
	}
	for _, stakes := range badStakes() {
		cases = append(cases, linkCase{forkTree(), stakes, exampleLinks()})
	}
	for _, bad := range badLinks() {
		cases = append(cases, linkCase{forkTree(), []int{1, 1, 1}, bad.links})
	}
	return cases
}

// withRoom returns the case with spare elements behind each list, and a function that looks whether all of it is what it was.
func withRoom(t *testing.T, c linkCase, spare impl.Link) (linkCase, func(name string)) {
	block := spareBlock(c.tree)
	given := linkCase{roomyWith(c.tree, block), roomy(c.stakes), roomyWith(c.links, spare)}
	return given, func(name string) {
		t.Helper()
		checkKeptWith(t, name, given.tree, c.tree, block)
		checkKept(t, name, given.stakes, c.stakes)
		checkKeptWith(t, name, given.links, c.links, spare)
	}
}

func TestPromise19LinksAreKept(t *testing.T) {
	for _, c := range keptLinks() {
		given, kept := withRoom(t, c, spareLink)
		tree, stakes, links := given.tree, given.stakes, given.links
		impl.GoodLinks(tree, stakes, links)
		kept("GoodLinks")
		impl.JustifiedIn(tree, stakes, links)
		kept("JustifiedIn")
		impl.FinalIn(tree, stakes, links)
		kept("FinalIn")
		impl.HighestIn(tree, stakes, links)
		kept("HighestIn")
		impl.ConflictIn(tree, stakes, links)
		kept("ConflictIn")
		for _, from := range []int{-1, 0, 1, 2, 23, math.MaxInt} {
			for _, to := range []int{0, 1, 2, 3, 24, math.MinInt} {
				impl.OneLink(tree, from, to)
				kept("OneLink")
				impl.WhoLinks(tree, stakes, links, from, to)
				kept("WhoLinks")
				impl.IsLinked(tree, stakes, links, from, to)
				kept("IsLinked")
			}
		}
	}
}

// overwriteLinks changes every link of a list up to its capacity.
func overwriteLinks(l []impl.Link) {
	l = l[:cap(l)]
	for i := range l {
		l[i] = impl.Link{Who: -behind}
	}
}

// checkLinkListIsNew overwrites a result with junk and then the arguments, and expects the others to stay what they were.
func checkLinkListIsNew[T comparable](t *testing.T, name string, c linkCase, want []T, junk T, call func(c linkCase) []T) {
	t.Helper()
	given, kept := withRoom(t, c, spareLink)
	first, second := call(given), call(given)
	first = first[:cap(first)]
	for i := range first {
		first[i] = junk
	}
	kept("overwriting the result of " + name)
	third := call(given)
	overwriteLinks(given.links)
	overwrite(given.stakes)
	clear(given.tree[:cap(given.tree)])
	if !slices.Equal(second, want) || !slices.Equal(third, want) {
		t.Fatalf("%s of %v = %v, then %v, want %v", name, c, second, third, want)
	}
}

func TestPromise19LinkListsAreNew(t *testing.T) {
	for _, c := range someLinks() {
		checkLinkListIsNew(t, "JustifiedIn", c, plainJustified(c), -behind, func(c linkCase) []int {
			l, _ := impl.JustifiedIn(c.tree, c.stakes, c.links)
			return l
		})
		checkLinkListIsNew(t, "FinalIn", c, plainFinal(c), -behind, func(c linkCase) []int {
			l, _ := impl.FinalIn(c.tree, c.stakes, c.links)
			return l
		})
		for _, pair := range linkablePairs(c.tree[:min(len(c.tree), 6)]) {
			checkLinkListIsNew(t, "WhoLinks", c, plainWhoLinks(c, pair[0], pair[1]), -behind, func(c linkCase) []int {
				who, _ := impl.WhoLinks(c.tree, c.stakes, c.links, pair[0], pair[1])
				return who
			})
		}
	}
}
