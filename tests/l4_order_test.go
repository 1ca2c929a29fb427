package tests

import (
	"math"
	"slices"
	"testing"

	"loop.example/g00564/impl"
)

// The tests below find subtrees by the paths of single steps, and minima by looking at every number of a range.

const mostNumbers = 60
const greatestNumber = 100000

func plainChildren(tree []impl.Block, b int) []int {
	var children []int
	for c := 1; c < len(tree); c++ {
		if tree[c].Parent == b {
			children = append(children, c)
		}
	}
	return children
}

func plainBelow(tree []impl.Block, b int) []int {
	var below []int
	for c := range tree {
		if plainAbove(tree, b, c) {
			below = append(below, c)
		}
	}
	return below
}

func plainOrder(tree []impl.Block, b int) []int {
	order := []int{b}
	for _, child := range plainChildren(tree, b) {
		order = append(order, plainOrder(tree, child)...)
	}
	return order
}

func plainTour(tree []impl.Block, b int) []int {
	tour := []int{b}
	for _, child := range plainChildren(tree, b) {
		tour = append(append(tour, plainTour(tree, child)...), b)
	}
	return tour
}

// plainSpans counts: a subtree begins where its block stands in the preorder, and has as many blocks as are below it.
func plainSpans(tree []impl.Block) [][]int {
	order := plainOrder(tree, 0)
	var spans [][]int
	for b := range tree {
		from := slices.Index(order, b)
		spans = append(spans, []int{from, from + len(plainBelow(tree, b))})
	}
	return spans
}

func plainSparse(l []int) [][]int {
	var rows [][]int
	for wide := 1; wide <= len(l); wide += wide {
		var row []int
		for from := 0; from+wide <= len(l); from++ {
			row = append(row, slices.Min(l[from:from+wide]))
		}
		rows = append(rows, row)
	}
	return rows
}

// drawnNumbers takes many numbers in 0..greatest from a row that the seed begins.
func drawnNumbers(many int, greatest int, seed int) []int {
	var l []int
	for range many {
		seed = 17364 * seed % 65521
		l = append(l, seed*7919%(greatest+1))
	}
	return l
}

// someNumbers has lists of every length, rising, falling, with many equal numbers, and of the extreme numbers alone.
func someNumbers() [][]int {
	var lists [][]int
	for many := 1; many <= mostNumbers; many++ {
		rising := make([]int, many)
		for i := range rising {
			rising[i] = i * 1000
		}
		falling := slices.Clone(rising)
		slices.Reverse(falling)
		lists = append(lists, rising, falling,
			drawnNumbers(many, greatestNumber, many), drawnNumbers(many, 3, many+100))
	}
	for _, many := range []int{1, 2, 3, 4, 59, 60} {
		lists = append(lists, repeated(0, many), repeated(greatestNumber, many))
	}
	return lists
}

func badNumbers() [][]int {
	lists := [][]int{nil, {}, drawnNumbers(mostNumbers+1, greatestNumber, 5), repeated(0, mostNumbers+1), repeated(0, 64), repeated(1, 1000)}
	for _, n := range []int{-1, -2, greatestNumber + 1, greatestNumber + 2, math.MaxInt, math.MinInt} {
		lists = append(lists, []int{n}, []int{n, 4}, []int{4, n}, []int{0, n, greatestNumber})
		long := drawnNumbers(mostNumbers, greatestNumber, 6)
		for _, at := range []int{0, 31, mostNumbers - 1} {
			bad := slices.Clone(long)
			bad[at] = n
			lists = append(lists, bad)
		}
	}
	return lists
}

func cloneLists(lists [][]int) [][]int {
	var clones [][]int
	for _, l := range lists {
		clones = append(clones, slices.Clone(l))
	}
	return clones
}

// badTable is a table that is no result of SparseOf, with the reason.
type badTable struct {
	why   string
	table [][]int
}

// badTables changes one thing in a valid table.
func badTables(good [][]int) []badTable {
	var bad []badTable
	add := func(why string, change func(table [][]int) [][]int) {
		bad = append(bad, badTable{why, change(cloneLists(good))})
	}
	end := len(good) - 1
	add("no row", func([][]int) [][]int { return nil })
	add("no row", func([][]int) [][]int { return [][]int{} })
	add("an empty row too many", func(table [][]int) [][]int { return append(table, nil) })
	add("a row too many", func(table [][]int) [][]int { return append(table, []int{slices.Min(table[0])}) })
	add("the last row twice", func(table [][]int) [][]int { return append(table, slices.Clone(table[end])) })
	add("the first row empty", func(table [][]int) [][]int {
		table[0] = nil
		return table
	})
	add("an empty row before the first", func(table [][]int) [][]int { return append([][]int{nil}, table...) })
	if end > 0 {
		add("a row too few", func(table [][]int) [][]int { return table[:end] })
	}
	// Without its first row, the table of two numbers is that of their minimum.
	if len(good[0]) > 2 {
		add("no first row", func(table [][]int) [][]int { return table[1:] })
	}
	for k, row := range good {
		add("a row too long", func(table [][]int) [][]int {
			table[k] = append(table[k], table[k][0])
			return table
		})
		add("a row too short", func(table [][]int) [][]int {
			table[k] = table[k][:len(row)-1]
			return table
		})
		for i := range row {
			for _, n := range []int{-1, greatestNumber + 1, math.MaxInt, math.MinInt} {
				add("a number that is not allowed", func(table [][]int) [][]int {
					table[k][i] = n
					return table
				})
			}
			if k > 0 {
				add("a minimum that is not one", func(table [][]int) [][]int {
					table[k][i] ^= 1
					return table
				})
			}
		}
	}
	return bad
}

func TestOrderExamples(t *testing.T) {
	tr := exampleTree()
	if l, ok := impl.ChildrenOf(tr, 0); !sameList(l, []int{1, 2}) || !ok {
		t.Error("ChildrenOf", l, ok)
	}
	if l, ok := impl.OrderOf(tr); !sameList(l, []int{0, 1, 3, 4, 2}) || !ok {
		t.Error("OrderOf", l, ok)
	}
	if l, ok := impl.SpansOf(tr); !sameLists(l, [][]int{{0, 5}, {1, 4}, {4, 5}, {2, 4}, {3, 4}}) || !ok {
		t.Error("SpansOf", l, ok)
	}
	if l, ok := impl.BelowOf(tr, 1); !sameList(l, []int{1, 3, 4}) || !ok {
		t.Error("BelowOf", l, ok)
	}
	if l, ok := impl.TourOf(tr); !sameList(l, []int{0, 1, 3, 4, 3, 1, 0, 2, 0}) || !ok {
		t.Error("TourOf", l, ok)
	}
	if b, ok := impl.MeetByTour(tr, 4, 2); b != 0 || !ok {
		t.Error("MeetByTour", b, ok)
	}
	sparse, ok := impl.SparseOf([]int{5, 3, 9})
	if !sameLists(sparse, [][]int{{5, 3, 9}, {3, 3}}) || !ok {
		t.Error("SparseOf", sparse, ok)
	}
	if n, ok := impl.LeastIn(sparse, 0, 2); n != 3 || !ok {
		t.Error("LeastIn", n, ok)
	}
}

func TestChildrenOfShapes(t *testing.T) {
	path, star := pathTree(impl.MaxBlocks), starTree(impl.MaxBlocks)
	cases := []struct {
		name string
		tree []impl.Block
		b    int
		want []int
	}{
		{"one block", pathTree(1), 0, nil},
		{"the first block of a path", path, 0, []int{1}},
		{"a block of a path", path, 22, []int{23}},
		{"the last block of a path", path, 23, nil},
		{"a leaf of a star", star, 5, nil},
		{"a star of four blocks", starTree(4), 0, []int{1, 2, 3}},
		{"children that are not neighbours", armedTree(4, 9), 4, []int{5, 9}},
		{"the last block as a child", armedTree(0, 23), 0, []int{1, 23}},
	}
	for _, c := range cases {
		if l, ok := impl.ChildrenOf(c.tree, c.b); !sameList(l, c.want) || !ok {
			t.Errorf("%s: ChildrenOf(%v, %d) = %v, %v, want %v", c.name, c.tree, c.b, l, ok, c.want)
		}
	}
	if l, ok := impl.ChildrenOf(star, 0); len(l) != impl.MaxBlocks-1 || !ok {
		t.Errorf("ChildrenOf(%v, 0) = %v, %v", star, l, ok)
	}
}

func TestChildrenOfEveryBlock(t *testing.T) {
	for _, tree := range someTrees() {
		for b := range tree {
			if l, ok := impl.ChildrenOf(tree, b); !sameList(l, plainChildren(tree, b)) || !ok {
				t.Fatalf("ChildrenOf(%v, %d) = %v, %v, want %v", tree, b, l, ok, plainChildren(tree, b))
			}
		}
	}
}

func TestOrderAndTourOfEveryTree(t *testing.T) {
	for _, tree := range someTrees() {
		if l, ok := impl.OrderOf(tree); !sameList(l, plainOrder(tree, 0)) || !ok {
			t.Fatalf("OrderOf(%v) = %v, %v, want %v", tree, l, ok, plainOrder(tree, 0))
		}
		if l, ok := impl.TourOf(tree); !sameList(l, plainTour(tree, 0)) || !ok {
			t.Fatalf("TourOf(%v) = %v, %v, want %v", tree, l, ok, plainTour(tree, 0))
		}
		if l, ok := impl.SpansOf(tree); !sameLists(l, plainSpans(tree)) || !ok {
			t.Fatalf("SpansOf(%v) = %v, %v, want %v", tree, l, ok, plainSpans(tree))
		}
	}
}

// TestPromise4Subtrees: the interval of a block has exactly the block and all blocks below it.
func TestPromise4Subtrees(t *testing.T) {
	for _, tree := range someTrees() {
		order, okOrder := impl.OrderOf(tree)
		spans, okSpans := impl.SpansOf(tree)
		if !okOrder || !okSpans || len(order) != len(tree) || len(spans) != len(tree) {
			t.Fatalf("of %v: the preorder %v, %v, the intervals %v, %v", tree, order, okOrder, spans, okSpans)
		}
		for b, span := range spans {
			if len(span) != 2 || span[0] < 0 || span[0] >= span[1] || span[1] > len(order) {
				t.Fatalf("SpansOf(%v): %v for block %d", tree, span, b)
			}
			part := slices.Sorted(slices.Values(order[span[0]:span[1]]))
			want := plainBelow(tree, b)
			if !sameList(part, want) || order[span[0]] != b {
				t.Fatalf("of %v, the interval %v of block %d in the preorder %v has not the blocks %v", tree, span, b, order, want)
			}
			if below, ok := impl.BelowOf(tree, b); !sameList(below, want) || !ok {
				t.Fatalf("BelowOf(%v, %d) = %v, %v, want %v", tree, b, below, ok, want)
			}
		}
	}
}

// TestPromise4IntervalsOfOneBlock: the leaves have them, and no other block.
func TestPromise4IntervalsOfOneBlock(t *testing.T) {
	for _, tree := range someTrees() {
		spans, _ := impl.SpansOf(tree)
		leaves, _ := impl.LeavesOf(tree)
		if len(spans) != len(tree) {
			t.Fatalf("SpansOf(%v) = %v", tree, spans)
		}
		for b, span := range spans {
			if isOne := span[1]-span[0] == 1; isOne != slices.Contains(leaves, b) {
				t.Fatalf("SpansOf(%v): %v for block %d, where the leaves are %v", tree, span, b, leaves)
			}
		}
	}
}

func TestOrderOfShapes(t *testing.T) {
	if l, ok := impl.OrderOf(pathTree(1)); !sameList(l, []int{0}) || !ok {
		t.Error("OrderOf one block", l, ok)
	}
	if l, ok := impl.SpansOf(pathTree(1)); !sameLists(l, [][]int{{0, 1}}) || !ok {
		t.Error("SpansOf one block", l, ok)
	}
	if l, ok := impl.BelowOf(pathTree(1), 0); !sameList(l, []int{0}) || !ok {
		t.Error("BelowOf one block", l, ok)
	}
	path, _ := impl.SpansOf(pathTree(impl.MaxBlocks))
	star, _ := impl.SpansOf(starTree(impl.MaxBlocks))
	for b := range impl.MaxBlocks {
		if !sameList(path[b], []int{b, impl.MaxBlocks}) {
			t.Errorf("the interval of block %d of the path is %v", b, path[b])
		}
		if b > 0 && !sameList(star[b], []int{b, b + 1}) {
			t.Errorf("the interval of block %d of the star is %v", b, star[b])
		}
	}
	branches := treeBy(7, func(b int) int { return max(b-2, 0) })
	if l, ok := impl.OrderOf(branches); !sameList(l, []int{0, 1, 3, 5, 2, 4, 6}) || !ok {
		t.Error("OrderOf two branches", l, ok)
	}
}

func TestTourReturnsToItsStart(t *testing.T) {
	for _, tree := range someTrees() {
		tour, ok := impl.TourOf(tree)
		if !ok || len(tour) != 2*len(tree)-1 || tour[0] != 0 || tour[len(tour)-1] != 0 {
			t.Fatalf("TourOf(%v) = %v, %v", tree, tour, ok)
		}
		for i := 1; i < len(tour); i++ {
			if a, b := tour[i-1], tour[i]; tree[a].Parent != b && tree[b].Parent != a {
				t.Fatalf("TourOf(%v) = %v, where neither of %d and %d is the parent", tree, tour, a, b)
			}
		}
		for b := range tree {
			visits := 0
			for _, at := range tour {
				if at == b {
					visits++
				}
			}
			if visits != len(plainChildren(tree, b))+1 {
				t.Fatalf("TourOf(%v) = %v visits %d %d times", tree, tour, b, visits)
			}
		}
	}
	if tour, ok := impl.TourOf(pathTree(1)); !sameList(tour, []int{0}) || !ok {
		t.Error("TourOf one block", tour, ok)
	}
}

// TestMeetByTourOfEveryPair has every two blocks in both orders, and each block with itself.
func TestMeetByTourOfEveryPair(t *testing.T) {
	for _, tree := range someTrees() {
		for a := range tree {
			for b := range tree {
				meet, _ := impl.MeetOf(tree, a, b)
				if c, ok := impl.MeetByTour(tree, a, b); c != meet || c != plainMeet(tree, a, b) || !ok {
					t.Fatalf("MeetByTour(%v, %d, %d) = %d, %v, but MeetOf is %d", tree, a, b, c, ok, meet)
				}
			}
		}
	}
}

// TestMeetByTourInTheTour: the meet is the block of least depth between the first occurrences.
func TestMeetByTourInTheTour(t *testing.T) {
	for _, tree := range someTrees() {
		tour := plainTour(tree, 0)
		for a := range tree {
			for b := range tree {
				from, to := slices.Index(tour, a), slices.Index(tour, b)
				want := a
				for i := min(from, to); i <= max(from, to); i++ {
					if len(plainWay(tree, tour[i])) < len(plainWay(tree, want)) {
						want = tour[i]
					}
				}
				if c, ok := impl.MeetByTour(tree, a, b); c != want || !ok {
					t.Fatalf("MeetByTour(%v, %d, %d) = %d, %v, want %d", tree, a, b, c, ok, want)
				}
			}
		}
	}
}

// TestPromise4Minima has every range of every list.
func TestPromise4Minima(t *testing.T) {
	for _, l := range someNumbers() {
		sparse, ok := impl.SparseOf(l)
		if !ok {
			t.Fatalf("SparseOf(%v) is refused", l)
		}
		for from := range l {
			for to := from + 1; to <= len(l); to++ {
				if n, ok := impl.LeastIn(sparse, from, to); n != slices.Min(l[from:to]) || !ok {
					t.Fatalf("LeastIn of %v, %d, %d = %d, %v, want %d", l, from, to, n, ok, slices.Min(l[from:to]))
				}
			}
		}
	}
}

// TestPromise4Rows: each row has the minima of 2^k neighbours, and the first one the numbers themselves.
func TestPromise4Rows(t *testing.T) {
	for _, l := range someNumbers() {
		if sparse, ok := impl.SparseOf(l); !sameLists(sparse, plainSparse(l)) || !ok {
			t.Fatalf("SparseOf(%v) = %v, %v, want %v", l, sparse, ok, plainSparse(l))
		}
	}
}

func TestSparseOfLengths(t *testing.T) {
	cases := []struct{ many, rows, last int }{
		{0, 0, 0}, {1, 1, 1}, {2, 2, 1}, {3, 2, 2}, {4, 3, 1}, {31, 5, 16}, {32, 6, 1}, {59, 6, 28}, {60, 6, 29}, {61, 0, 0},
	}
	for _, c := range cases {
		sparse, ok := impl.SparseOf(repeated(7, c.many))
		if len(sparse) != c.rows || ok != (c.rows > 0) {
			t.Errorf("SparseOf %d numbers has %d rows, %v, want %d", c.many, len(sparse), ok, c.rows)
		}
		if len(sparse) > 0 && len(sparse[len(sparse)-1]) != c.last {
			t.Errorf("the last row of SparseOf %d numbers is %v, want %d minima", c.many, sparse[len(sparse)-1], c.last)
		}
	}
}

func TestSparseOfNumbers(t *testing.T) {
	cases := []struct {
		n  int
		ok bool
	}{{0, true}, {1, true}, {greatestNumber - 1, true}, {greatestNumber, true}, {-1, false}, {greatestNumber + 1, false}}
	for _, c := range cases {
		sparse, ok := impl.SparseOf([]int{c.n})
		if ok != c.ok || ok && !sameLists(sparse, [][]int{{c.n}}) || !ok && len(sparse) != 0 {
			t.Errorf("SparseOf([%d]) = %v, %v", c.n, sparse, ok)
		}
		if n, ok := impl.LeastIn([][]int{{c.n}}, 0, 1); ok != c.ok || ok && n != c.n || !ok && n != 0 {
			t.Errorf("LeastIn([[%d]], 0, 1) = %d, %v", c.n, n, ok)
		}
	}
}

func TestLeastInAtTheEnds(t *testing.T) {
	for _, many := range []int{1, 2, 3, 4, 59, 60} {
		l := drawnNumbers(many, greatestNumber, many)
		sparse, _ := impl.SparseOf(l)
		if n, ok := impl.LeastIn(sparse, 0, many); n != slices.Min(l) || !ok {
			t.Errorf("LeastIn of all of %v = %d, %v", l, n, ok)
		}
		if n, ok := impl.LeastIn(sparse, many-1, many); n != l[many-1] || !ok {
			t.Errorf("LeastIn of the last of %v = %d, %v", l, n, ok)
		}
		bad := [][2]int{
			{0, many + 1}, {many - 1, many + 1}, {many, many + 1}, {many, many}, {0, 0}, {many - 1, many - 1}, {many + 1, many + 1},
			{-1, 0}, {-1, 1}, {-1, many}, {-many, many}, {1, 0}, {many, 0}, {many, many - 1}, {-2, -1}, {-1, -1}, {0, -1},
			{0, math.MaxInt}, {math.MinInt, 1}, {math.MinInt, math.MaxInt}, {math.MaxInt, math.MinInt}, {math.MinInt, math.MinInt}, {math.MaxInt, math.MaxInt}, {1, math.MinInt}, {math.MaxInt, 1},
		}
		for _, r := range bad {
			if n, ok := impl.LeastIn(sparse, r[0], r[1]); n != 0 || ok {
				t.Errorf("LeastIn of %d numbers, %d, %d = %d, %v", many, r[0], r[1], n, ok)
			}
		}
	}
}

func TestPromise19InvalidNumbers(t *testing.T) {
	for _, l := range badNumbers() {
		if sparse, ok := impl.SparseOf(l); len(sparse) != 0 || ok {
			t.Errorf("SparseOf(%v) = %v, %v", l, sparse, ok)
		}
		// The table that such numbers would have is no result of SparseOf.
		if n, ok := impl.LeastIn(plainSparse(l), 0, 1); n != 0 || ok {
			t.Errorf("LeastIn of the table of %v = %d, %v", l, n, ok)
		}
	}
}

func TestPromise19InvalidTables(t *testing.T) {
	for _, many := range []int{1, 2, 3, 4, 7, 8, 59, 60} {
		for _, bad := range badTables(plainSparse(drawnNumbers(many, greatestNumber-2, many))) {
			for _, r := range [][2]int{{0, 1}, {0, 2}, {many - 1, many}, {0, many}, {0, 0}, {-1, 1}, {many, many + 1}} {
				if n, ok := impl.LeastIn(bad.table, r[0], r[1]); n != 0 || ok {
					t.Fatalf("LeastIn(%v, %d, %d) = %d, %v, but the table has %s", bad.table, r[0], r[1], n, ok, bad.why)
				}
			}
		}
	}
}

// TestPromise19ChangedNumber: a table whose first row alone has changed is refused where the change reaches a minimum.
func TestPromise19ChangedNumber(t *testing.T) {
	good := [][]int{{5, 3, 9, 4}, {3, 3, 4}, {3}}
	if n, ok := impl.LeastIn(good, 0, 4); n != 3 || !ok {
		t.Error(n, ok)
	}
	for _, first := range [][]int{{5, 2, 9, 4}, {5, 4, 9, 4}, {2, 3, 9, 4}, {5, 3, 9, 5}, {5, 3, 3, 4}} {
		table := [][]int{first, {3, 3, 4}, {3}}
		if n, ok := impl.LeastIn(table, 0, 4); n != 0 || ok {
			t.Errorf("LeastIn(%v, 0, 4) = %d, %v", table, n, ok)
		}
	}
	// Only 9 may become another number from 4 on, because no minimum shows it.
	if n, ok := impl.LeastIn([][]int{{5, 3, 8, 4}, {3, 3, 4}, {3}}, 2, 3); n != 8 || !ok {
		t.Error(n, ok)
	}
}

// checkOrderRefused expects the zero result of every function of a tree.
func checkOrderRefused(t *testing.T, tree []impl.Block) {
	t.Helper()
	if l, ok := impl.OrderOf(tree); len(l) != 0 || ok {
		t.Errorf("OrderOf(%v) = %v, %v", tree, l, ok)
	}
	if l, ok := impl.SpansOf(tree); len(l) != 0 || ok {
		t.Errorf("SpansOf(%v) = %v, %v", tree, l, ok)
	}
	if l, ok := impl.TourOf(tree); len(l) != 0 || ok {
		t.Errorf("TourOf(%v) = %v, %v", tree, l, ok)
	}
}

// checkBelowRefused expects the zero result of every function of a tree and a block, or two.
func checkBelowRefused(t *testing.T, tree []impl.Block, b int) {
	t.Helper()
	if l, ok := impl.BelowOf(tree, b); len(l) != 0 || ok {
		t.Errorf("BelowOf(%v, %d) = %v, %v", tree, b, l, ok)
	}
	if l, ok := impl.ChildrenOf(tree, b); len(l) != 0 || ok {
		t.Errorf("ChildrenOf(%v, %d) = %v, %v", tree, b, l, ok)
	}
	for _, other := range []int{0, len(tree) - 1, b} {
		if c, ok := impl.MeetByTour(tree, b, other); c != 0 || ok {
			t.Errorf("MeetByTour(%v, %d, %d) = %d, %v", tree, b, other, c, ok)
		}
		if c, ok := impl.MeetByTour(tree, other, b); c != 0 || ok {
			t.Errorf("MeetByTour(%v, %d, %d) = %d, %v", tree, other, b, c, ok)
		}
	}
}

func TestPromise19OrderOfInvalidTrees(t *testing.T) {
	for _, bad := range badTrees() {
		checkOrderRefused(t, bad.tree)
		for _, b := range append(badBlocks(bad.tree), 0, 1, 2, 3, 4, 23) {
			checkBelowRefused(t, bad.tree, b)
		}
	}
}

func TestPromise19OrderOfInvalidBlocks(t *testing.T) {
	for _, tree := range someTrees() {
		for _, b := range badBlocks(tree) {
			checkBelowRefused(t, tree, b)
		}
	}
}

// TestPromise19OrderBehindTheLength: what is behind the length of a tree, a list or a table belongs to none of them.
func TestPromise19OrderBehindTheLength(t *testing.T) {
	for _, plain := range someTrees() {
		tree := roomyWith(plain, spareBlock(plain))
		if l, ok := impl.OrderOf(tree); !sameList(l, plainOrder(plain, 0)) || !ok {
			t.Errorf("OrderOf(%v) = %v, %v", plain, l, ok)
		}
		if l, ok := impl.SpansOf(tree); !sameLists(l, plainSpans(plain)) || !ok {
			t.Errorf("SpansOf(%v) = %v, %v", plain, l, ok)
		}
		if l, ok := impl.TourOf(tree); !sameList(l, plainTour(plain, 0)) || !ok {
			t.Errorf("TourOf(%v) = %v, %v", plain, l, ok)
		}
		last := len(plain) - 1
		if l, ok := impl.ChildrenOf(tree, last); len(l) != 0 || !ok {
			t.Errorf("ChildrenOf(%v, %d) = %v, %v", plain, last, l, ok)
		}
		if l, ok := impl.BelowOf(tree, last); !sameList(l, []int{last}) || !ok {
			t.Errorf("BelowOf(%v, %d) = %v, %v", plain, last, l, ok)
		}
		checkBelowRefused(t, tree, len(tree))
	}
	checkOrderRefused(t, roomyWith(nil, impl.Block{Parent: -1}))
	if l, ok := impl.SparseOf(roomy(nil)); len(l) != 0 || ok {
		t.Errorf("SparseOf no number = %v, %v", l, ok)
	}
	if l, ok := impl.SparseOf(roomyWith([]int{5, 9}, -1)); !sameLists(l, [][]int{{5, 9}, {5}}) || !ok {
		t.Errorf("SparseOf([5 9]) = %v, %v", l, ok)
	}
	if n, ok := impl.LeastIn(roomyTable([][]int{{5, 9}, {5}})[:1], 0, 2); n != 0 || ok {
		t.Errorf("LeastIn of a row too few = %d, %v", n, ok)
	}
}

// roomyTable returns a copy of a table with spare rows behind its length and spare numbers behind that of each row.
func roomyTable(table [][]int) [][]int {
	var rows [][]int
	for _, row := range table {
		rows = append(rows, roomy(row))
	}
	return roomyWith(rows, nil)
}

func TestPromise19OrderKeepsTrees(t *testing.T) {
	withKeptTrees(t, func(tree []impl.Block, kept func(name string)) {
		impl.OrderOf(tree)
		kept("OrderOf")
		impl.SpansOf(tree)
		kept("SpansOf")
		impl.TourOf(tree)
		kept("TourOf")
		for _, b := range someArguments() {
			impl.BelowOf(tree, b)
			kept("BelowOf")
			impl.ChildrenOf(tree, b)
			kept("ChildrenOf")
			for _, other := range someArguments() {
				impl.MeetByTour(tree, b, other)
				kept("MeetByTour")
			}
		}
	})
}

func TestPromise19NumbersAndTablesAreKept(t *testing.T) {
	for _, plain := range append(someNumbers(), badNumbers()...) {
		l := roomy(plain)
		impl.SparseOf(l)
		checkKept(t, "SparseOf", l, plain)
		was := plainSparse(plain)
		table := roomyTable(was)
		for _, from := range []int{-1, 0, 1, len(plain), math.MaxInt} {
			for _, to := range []int{-1, 0, 1, len(plain), len(plain) + 1, math.MinInt} {
				impl.LeastIn(table, from, to)
			}
		}
		if len(table) != len(was) {
			t.Fatalf("LeastIn changed the number of rows of %v", was)
		}
		for k, row := range table {
			checkKept(t, "LeastIn", row, was[k])
		}
		for _, row := range table[len(table) : len(table)+3] {
			if row != nil {
				t.Fatalf("LeastIn wrote behind the length of %v", was)
			}
		}
	}
}

// checkListIsNew overwrites a result up to its capacity and expects the results of other calls to be what they were.
func checkListIsNew(t *testing.T, name string, want []int, call func() []int) {
	t.Helper()
	first, second := call(), call()
	overwrite(first)
	if third := call(); !sameList(second, want) || !sameList(third, want) {
		t.Fatalf("%s = %v, then %v, want %v", name, second, third, want)
	}
}

// checkListsAreNew does so with each list of a result, and expects the other lists of that result to be kept too.
func checkListsAreNew(t *testing.T, name string, want [][]int, call func() [][]int) {
	t.Helper()
	again := call()
	for i := range want {
		lists := call()
		overwrite(lists[i])
		lists[i] = want[i]
		if !sameLists(lists, want) || !sameLists(again, want) {
			t.Fatalf("%s: the list %d shares memory with another one: %v, %v, want %v", name, i, lists, again, want)
		}
	}
	clear(call())
	if !sameLists(again, want) {
		t.Fatalf("%s = %v, want %v", name, again, want)
	}
}

func TestPromise19OrdersAreNew(t *testing.T) {
	for _, plain := range someTrees() {
		tree := slices.Clone(plain)
		checkListIsNew(t, "OrderOf", plainOrder(tree, 0), func() []int {
			l, _ := impl.OrderOf(tree)
			return l
		})
		checkListIsNew(t, "TourOf", plainTour(tree, 0), func() []int {
			l, _ := impl.TourOf(tree)
			return l
		})
		checkListsAreNew(t, "SpansOf", plainSpans(tree), func() [][]int {
			l, _ := impl.SpansOf(tree)
			return l
		})
		for b := range tree {
			checkListIsNew(t, "BelowOf", plainBelow(tree, b), func() []int {
				l, _ := impl.BelowOf(tree, b)
				return l
			})
			checkListIsNew(t, "ChildrenOf", plainChildren(tree, b), func() []int {
				l, _ := impl.ChildrenOf(tree, b)
				return l
			})
		}
		if !slices.Equal(tree, plain) {
			t.Fatalf("a result shares memory with the tree %v", plain)
		}
	}
}

func TestPromise19SparseIsNew(t *testing.T) {
	for _, plain := range someNumbers() {
		l := roomy(plain)
		want := plainSparse(plain)
		checkListsAreNew(t, "SparseOf", want, func() [][]int {
			sparse, _ := impl.SparseOf(l)
			return sparse
		})
		checkKept(t, "overwriting the result of SparseOf", l, plain)
		sparse, _ := impl.SparseOf(l)
		overwrite(l)
		if !sameLists(sparse, want) {
			t.Fatalf("SparseOf(%v) shares memory with its argument", plain)
		}
	}
}
