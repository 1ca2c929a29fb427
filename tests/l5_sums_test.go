package tests

import (
	"math"
	"slices"
	"testing"

	"loop.example/g00564/impl"
)

// The tests below add up the numbers of plain lists, one by one.

const greatestWeight = 100000

// plainWidth is the greatest power of 2 that divides n.
func plainWidth(n int) int {
	width := 1
	for n%(2*width) == 0 {
		width *= 2
	}
	return width
}

func plainCells(l []int) []int {
	var cells []int
	for k := range l {
		cells = append(cells, plainSum(l[k+1-plainWidth(k+1):k+1]))
	}
	return cells
}

// isPlainCells finds the only list that could have the cells, from the front, and looks at its numbers.
func isPlainCells(cells []int) bool {
	var l []int
	for k, cell := range cells {
		n := cell - plainSum(l[k+1-plainWidth(k+1):])
		if n < 0 || n > greatestWeight {
			return false
		}
		l = append(l, n)
	}
	return len(l) >= 1 && len(l) <= impl.MaxCells
}

// plainFirstAbove returns no index as the number of all numbers.
func plainFirstAbove(l []int, n int) int {
	for k := range l {
		if plainSum(l[:k+1]) > n {
			return k
		}
	}
	return len(l)
}

// someWeights has lists of every length: drawn ones, with many zeros, and of the extreme numbers.
func someWeights() [][]int {
	var lists [][]int
	for many := 1; many <= impl.MaxCells; many++ {
		rising := make([]int, many)
		for k := range rising {
			rising[k] = k + 1
		}
		oneAmongZeros := repeated(0, many)
		oneAmongZeros[many/2] = 5
		lists = append(lists, rising, oneAmongZeros, repeated(0, many), repeated(greatestWeight, many),
			drawnNumbers(many, greatestWeight, many), drawnNumbers(many, 2, many+100), drawnNumbers(many, 1, many+200))
	}
	return lists
}

// wrongNumbers are no numbers of an allowed list.
func wrongNumbers() []int {
	return []int{-1, -2, -greatestWeight, greatestWeight + 1, greatestWeight + 2, 2 * greatestWeight, math.MaxInt, math.MaxInt - 1, math.MinInt, math.MinInt + 1}
}

func badWeights() [][]int {
	lists := [][]int{nil, {}}
	for _, many := range []int{impl.MaxCells + 1, impl.MaxCells + 2, 60, 64, 1000} {
		lists = append(lists, repeated(0, many), repeated(1, many), drawnNumbers(many, greatestWeight, many))
	}
	for _, many := range []int{1, 2, 3, 4, 7, 8, impl.MaxCells - 1, impl.MaxCells} {
		for at := range many {
			for _, n := range wrongNumbers() {
				drawn, zeros := drawnNumbers(many, greatestWeight, many+at), repeated(0, many)
				drawn[at], zeros[at] = n, n
				lists = append(lists, drawn, zeros)
			}
		}
	}
	return lists
}

// badCells are the cells that lists of badWeights would have, and cells of which one alone has been changed.
func badCells() [][]int {
	lists := [][]int{
		{math.MaxInt, math.MinInt}, {math.MinInt, math.MinInt}, {math.MinInt, math.MinInt + 5}, {math.MaxInt, math.MaxInt}, {greatestWeight, math.MinInt},
		{0, 0, 0, math.MinInt}, {1, 1, 1, math.MinInt}, {1, 1, math.MaxInt, math.MinInt}, {5, 4}, {0, greatestWeight + 1}, {greatestWeight, 2*greatestWeight + 1},
	}
	for _, l := range badWeights() {
		lists = append(lists, plainCells(l))
	}
	for many := 1; many <= impl.MaxCells; many++ {
		for k := range many {
			below, above := repeated(0, many), plainCells(repeated(greatestWeight, many))
			below[k]--
			above[k]++
			lists = append(lists, below, above)
			for _, n := range []int{-1, math.MinInt, math.MaxInt, impl.MaxCells*greatestWeight + 1} {
				cells := plainCells(drawnNumbers(many, greatestWeight, many))
				cells[k] = n
				lists = append(lists, cells)
			}
		}
	}
	return lists
}

func sumsOf(t *testing.T, l []int) impl.Sums {
	t.Helper()
	s, ok := impl.SumsOf(l)
	if !ok {
		t.Fatalf("SumsOf(%v) is refused", l)
	}
	return s
}

// checkSums expects s to be the tree of the list l: its cells, all prefix sums and the list itself.
func checkSums(t *testing.T, s impl.Sums, l []int) {
	t.Helper()
	if !sameList(s.Cells, plainCells(l)) || !impl.GoodSums(s) {
		t.Fatalf("the cells of %v are %v, GoodSums %v, want %v", l, s.Cells, impl.GoodSums(s), plainCells(l))
	}
	for n := 0; n <= len(l); n++ {
		if sum, ok := impl.SumTo(s, n); sum != plainSum(l[:n]) || !ok {
			t.Fatalf("SumTo of %v, %d = %d, %v, want %d", l, n, sum, ok, plainSum(l[:n]))
		}
	}
	if got, ok := impl.ListOf(s); !sameList(got, l) || !ok {
		t.Fatalf("ListOf the tree of %v = %v, %v", l, got, ok)
	}
}

func TestSumsConstants(t *testing.T) {
	if impl.MaxCells != 32 {
		t.Error(impl.MaxCells)
	}
}

func TestSumsExamples(t *testing.T) {
	s, ok := impl.SumsOf([]int{1, 2, 3, 4})
	if !sameList(s.Cells, []int{1, 3, 3, 10}) || !ok || !impl.GoodSums(s) {
		t.Error("SumsOf", s, ok)
	}
	if l, ok := impl.ListOf(s); !sameList(l, []int{1, 2, 3, 4}) || !ok {
		t.Error("ListOf", l, ok)
	}
	if n, ok := impl.SumTo(s, 3); n != 6 || !ok {
		t.Error("SumTo", n, ok)
	}
	if n, ok := impl.BetweenOf(s, 1, 3); n != 5 || !ok {
		t.Error("BetweenOf", n, ok)
	}
	a, ok := impl.AddAt(s, 2, 5)
	if !sameList(a.Cells, []int{1, 3, 8, 15}) || !ok {
		t.Error("AddAt", a, ok)
	}
	if l, ok := impl.ListOf(a); !sameList(l, []int{1, 2, 8, 4}) || !ok {
		t.Error("ListOf after AddAt", l, ok)
	}
	if k, ok := impl.FirstAbove(s, 3); k != 2 || !ok {
		t.Error("FirstAbove", k, ok)
	}
}

func TestSumsCells(t *testing.T) {
	for _, l := range someWeights() {
		if s, ok := impl.SumsOf(l); !sameList(s.Cells, plainCells(l)) || !ok {
			t.Fatalf("SumsOf(%v) = %v, %v, want %v", l, s.Cells, ok, plainCells(l))
		}
	}
}

func TestPromise5PrefixSums(t *testing.T) {
	for _, l := range someWeights() {
		checkSums(t, sumsOf(t, l), l)
	}
}

// TestPromise5EveryIndex changes each number in turn, up to the greatest, down to 0 and somewhere between.
func TestPromise5EveryIndex(t *testing.T) {
	for many := 1; many <= impl.MaxCells; many++ {
		l := drawnNumbers(many, greatestWeight, many)
		s := sumsOf(t, l)
		for k := range l {
			for _, to := range []int{greatestWeight, 0, 70000, 69999, 70001, l[k]} {
				by := to - l[k]
				next, ok := impl.AddAt(s, k, by)
				if !ok {
					t.Fatalf("AddAt of %v, %d, %d is refused", l, k, by)
				}
				l[k] += by
				s = next
				checkSums(t, s, l)
			}
		}
	}
}

// TestPromise5ManyChanges goes on with one tree, at drawn indexes and by drawn amounts of both signs.
func TestPromise5ManyChanges(t *testing.T) {
	for _, plain := range someWeights() {
		l := slices.Clone(plain)
		s := sumsOf(t, l)
		indexes := drawnNumbers(12, len(l)-1, len(l)+3)
		for i, to := range drawnNumbers(12, greatestWeight, len(l)+4) {
			k := indexes[i]
			by := to - l[k]
			next, ok := impl.AddAt(s, k, by)
			if !ok {
				t.Fatalf("AddAt of %v, %d, %d is refused", l, k, by)
			}
			checkSums(t, s, l)
			l[k] += by
			s = next
			checkSums(t, s, l)
		}
	}
}

func TestBetweenOfEveryRange(t *testing.T) {
	for _, l := range someWeights() {
		s := sumsOf(t, l)
		for to := 0; to <= len(l); to++ {
			for from := 0; from <= to; from++ {
				high, okHigh := impl.SumTo(s, to)
				low, okLow := impl.SumTo(s, from)
				n, ok := impl.BetweenOf(s, from, to)
				if n != high-low || n != plainSum(l[from:to]) || !ok || !okHigh || !okLow {
					t.Fatalf("BetweenOf %v, %d, %d = %d, %v, want %d", l, from, to, n, ok, plainSum(l[from:to]))
				}
			}
		}
	}
}

// checkFirstAbove expects no index where there is none.
func checkFirstAbove(t *testing.T, s impl.Sums, l []int, n int) {
	t.Helper()
	want := plainFirstAbove(l, n)
	k, ok := impl.FirstAbove(s, n)
	if want == len(l) {
		if k != 0 || ok {
			t.Fatalf("FirstAbove %v, %d = %d, %v, but there is none", l, n, k, ok)
		}
	} else if k != want || !ok {
		t.Fatalf("FirstAbove %v, %d = %d, %v, want %d", l, n, k, ok, want)
	}
}

func TestFirstAboveAroundEverySum(t *testing.T) {
	for _, l := range someWeights() {
		s := sumsOf(t, l)
		for n := 0; n <= len(l); n++ {
			sum := plainSum(l[:n])
			checkFirstAbove(t, s, l, max(sum-1, 0))
			checkFirstAbove(t, s, l, sum)
			checkFirstAbove(t, s, l, sum+1)
		}
		for _, n := range []int{0, 1, impl.MaxCells * greatestWeight, math.MaxInt} {
			checkFirstAbove(t, s, l, n)
		}
	}
}

func TestFirstAboveZeros(t *testing.T) {
	s := sumsOf(t, []int{0, 0, 3, 0, 0, 2, 0})
	cases := []struct {
		n, k int
		ok   bool
	}{{0, 2, true}, {1, 2, true}, {2, 2, true}, {3, 5, true}, {4, 5, true}, {5, 0, false}, {6, 0, false}, {-1, 0, false}}
	for _, c := range cases {
		if k, ok := impl.FirstAbove(s, c.n); k != c.k || ok != c.ok {
			t.Errorf("FirstAbove(%v, %d) = %d, %v, want %d, %v", s, c.n, k, ok, c.k, c.ok)
		}
	}
}

func TestSumsOfLengths(t *testing.T) {
	cases := []struct {
		many int
		ok   bool
	}{{0, false}, {1, true}, {2, true}, {impl.MaxCells - 1, true}, {impl.MaxCells, true}, {impl.MaxCells + 1, false}, {2 * impl.MaxCells, false}}
	for _, c := range cases {
		for _, n := range []int{0, 7, greatestWeight} {
			l := repeated(n, c.many)
			s, ok := impl.SumsOf(l)
			if ok != c.ok || ok && len(s.Cells) != c.many || !ok && len(s.Cells) != 0 {
				t.Errorf("SumsOf %d numbers = %v, %v", c.many, s, ok)
			}
			if is := impl.GoodSums(impl.Sums{Cells: plainCells(l)}); is != c.ok {
				t.Errorf("GoodSums of %d cells is %v", c.many, is)
			}
		}
	}
}

func TestSumsOfNumbers(t *testing.T) {
	cases := []struct {
		n  int
		ok bool
	}{{0, true}, {1, true}, {greatestWeight - 1, true}, {greatestWeight, true}, {-1, false}, {greatestWeight + 1, false}, {math.MinInt, false}, {math.MaxInt, false}}
	for _, c := range cases {
		for _, l := range [][]int{{c.n}, {c.n, 3}, {3, c.n}, {3, 4, c.n, 5}} {
			s, ok := impl.SumsOf(l)
			if ok != c.ok || ok && !sameList(s.Cells, plainCells(l)) || !ok && len(s.Cells) != 0 {
				t.Errorf("SumsOf(%v) = %v, %v", l, s, ok)
			}
			if is := impl.GoodSums(impl.Sums{Cells: plainCells(l)}); is != c.ok {
				t.Errorf("GoodSums of the cells of %v is %v", l, is)
			}
		}
	}
}

func TestAddAtBounds(t *testing.T) {
	for _, many := range []int{1, 2, 3, 8, impl.MaxCells - 1, impl.MaxCells} {
		for _, l := range [][]int{drawnNumbers(many, greatestWeight, many), repeated(0, many), repeated(greatestWeight, many)} {
			s := sumsOf(t, l)
			for k, n := range l {
				for _, by := range []int{-n, greatestWeight - n, 0} {
					changed := slices.Clone(l)
					changed[k] += by
					if a, ok := impl.AddAt(s, k, by); !sameList(a.Cells, plainCells(changed)) || !ok {
						t.Fatalf("AddAt of %v, %d, %d = %v, %v", l, k, by, a, ok)
					}
				}
				for _, by := range []int{-n - 1, -n - 2, greatestWeight - n + 1, greatestWeight - n + 2, math.MinInt, math.MinInt + 1, math.MaxInt, math.MaxInt - 1} {
					if a, ok := impl.AddAt(s, k, by); len(a.Cells) != 0 || ok {
						t.Fatalf("AddAt of %v, %d, %d = %v, %v", l, k, by, a, ok)
					}
				}
			}
		}
	}
}

// TestGoodSumsOfAllSmallCells takes every choice of up to four cells from numbers around the bounds of the sums.
func TestGoodSumsOfAllSmallCells(t *testing.T) {
	from := []int{-1, 0, 1, greatestWeight, greatestWeight + 1, 2 * greatestWeight, 2*greatestWeight + 1, 4 * greatestWeight, 4*greatestWeight + 1}
	lists := [][]int{{}}
	for at := 0; at < len(lists); at++ {
		cells := lists[at]
		if is := impl.GoodSums(impl.Sums{Cells: cells}); is != isPlainCells(cells) {
			t.Fatalf("GoodSums(%v) is %v", cells, is)
		}
		for _, n := range from {
			if len(cells) < 4 {
				lists = append(lists, append(slices.Clone(cells), n))
			}
		}
	}
}

// TestGoodSumsOfChangedCells: a cell may change alone as long as the numbers of the list stay allowed.
func TestGoodSumsOfChangedCells(t *testing.T) {
	for _, l := range someWeights() {
		for k := range l {
			for _, by := range []int{-greatestWeight - 1, -1, 1, greatestWeight + 1} {
				cells := plainCells(l)
				cells[k] += by
				if is := impl.GoodSums(impl.Sums{Cells: cells}); is != isPlainCells(cells) {
					t.Fatalf("GoodSums(%v) is %v", cells, is)
				}
			}
		}
	}
}

func TestGoodSumsOfBadCells(t *testing.T) {
	for _, cells := range badCells() {
		if impl.GoodSums(impl.Sums{Cells: cells}) {
			t.Errorf("GoodSums(%v) is true", cells)
		}
	}
}

func TestPromise19InvalidLists(t *testing.T) {
	for _, l := range badWeights() {
		if s, ok := impl.SumsOf(l); len(s.Cells) != 0 || ok {
			t.Errorf("SumsOf(%v) = %v, %v", l, s, ok)
		}
	}
}

func checkAddAtRefused(t *testing.T, s impl.Sums, k int, by int) {
	t.Helper()
	if a, ok := impl.AddAt(s, k, by); len(a.Cells) != 0 || ok {
		t.Errorf("AddAt(%v, %d, %d) = %v, %v", s, k, by, a, ok)
	}
}

func checkSumToRefused(t *testing.T, s impl.Sums, n int) {
	t.Helper()
	if sum, ok := impl.SumTo(s, n); sum != 0 || ok {
		t.Errorf("SumTo(%v, %d) = %d, %v", s, n, sum, ok)
	}
}

func checkFirstAboveRefused(t *testing.T, s impl.Sums, n int) {
	t.Helper()
	if k, ok := impl.FirstAbove(s, n); k != 0 || ok {
		t.Errorf("FirstAbove(%v, %d) = %d, %v", s, n, k, ok)
	}
}

func checkBetweenRefused(t *testing.T, s impl.Sums, from int, to int) {
	t.Helper()
	if sum, ok := impl.BetweenOf(s, from, to); sum != 0 || ok {
		t.Errorf("BetweenOf(%v, %d, %d) = %d, %v", s, from, to, sum, ok)
	}
}

func TestPromise19InvalidSums(t *testing.T) {
	for _, cells := range badCells() {
		s := impl.Sums{Cells: cells}
		if l, ok := impl.ListOf(s); len(l) != 0 || ok {
			t.Errorf("ListOf(%v) = %v, %v", s, l, ok)
		}
		for _, n := range []int{-1, 0, 1, len(cells) - 1, len(cells), len(cells) + 1, math.MaxInt, math.MinInt} {
			for _, by := range []int{0, 1, -1, math.MinInt, math.MaxInt} {
				checkAddAtRefused(t, s, n, by)
			}
			checkSumToRefused(t, s, n)
			checkFirstAboveRefused(t, s, n)
			checkBetweenRefused(t, s, 0, n)
			checkBetweenRefused(t, s, n, len(cells))
			checkBetweenRefused(t, s, n, n)
		}
	}
}

func TestPromise19InvalidIndexes(t *testing.T) {
	for _, l := range someWeights() {
		s := sumsOf(t, l)
		many := len(l)
		for _, k := range []int{-1, -2, -many, many, many + 1, impl.MaxCells, impl.MaxCells + 1, math.MaxInt, math.MinInt} {
			for _, by := range []int{0, 1, -1, greatestWeight, math.MinInt, math.MaxInt} {
				checkAddAtRefused(t, s, k, by)
			}
		}
		for _, n := range []int{-1, -2, -many, many + 1, many + 2, impl.MaxCells + 1, math.MaxInt, math.MinInt} {
			checkSumToRefused(t, s, n)
			checkBetweenRefused(t, s, 0, n)
			checkBetweenRefused(t, s, n, many)
			checkBetweenRefused(t, s, n, n)
		}
		for _, n := range []int{-1, -2, -greatestWeight, math.MinInt, math.MinInt + 1} {
			checkFirstAboveRefused(t, s, n)
		}
		for from := 1; from <= many; from++ {
			checkBetweenRefused(t, s, from, from-1)
			checkBetweenRefused(t, s, from, 0)
		}
		checkBetweenRefused(t, s, math.MaxInt, math.MinInt)
		checkBetweenRefused(t, s, math.MinInt, math.MaxInt)
		checkBetweenRefused(t, s, many+1, many)
	}
}

// TestPromise19SumsBehindTheLength: what is behind the length of a list or of the cells belongs to neither.
func TestPromise19SumsBehindTheLength(t *testing.T) {
	for _, l := range someWeights() {
		s, ok := impl.SumsOf(roomyWith(l, -1))
		if !ok {
			t.Fatalf("SumsOf(%v) is refused", l)
		}
		checkSums(t, s, l)
		roomyCells := impl.Sums{Cells: roomy(plainCells(l))}
		checkSums(t, roomyCells, l)
		checkAddAtRefused(t, roomyCells, len(l), 1)
		checkSumToRefused(t, roomyCells, len(l)+1)
		checkBetweenRefused(t, roomyCells, 0, len(l)+1)
		checkFirstAboveRefused(t, roomyCells, plainSum(l))
	}
	if s, ok := impl.SumsOf(roomy(nil)); len(s.Cells) != 0 || ok {
		t.Errorf("SumsOf no number = %v, %v", s, ok)
	}
	if impl.GoodSums(impl.Sums{Cells: roomy(nil)}) {
		t.Error("GoodSums of no cell is true")
	}
}

func TestPromise19ListsAndSumsAreKept(t *testing.T) {
	for _, plain := range append(someWeights(), badWeights()...) {
		l := roomy(plain)
		impl.SumsOf(l)
		checkKept(t, "SumsOf", l, plain)
		was := plainCells(plain)
		s := impl.Sums{Cells: roomy(was)}
		kept := func(name string) {
			if len(s.Cells) != len(was) {
				t.Fatalf("%s changed the number of cells of %v", name, was)
			}
			checkKept(t, name, s.Cells, was)
		}
		impl.GoodSums(s)
		kept("GoodSums")
		impl.ListOf(s)
		kept("ListOf")
		for _, n := range []int{-1, 0, 1, len(plain) - 1, len(plain), len(plain) + 1, math.MaxInt, math.MinInt} {
			for _, by := range []int{-1, 0, 1, math.MinInt, math.MaxInt} {
				impl.AddAt(s, n, by)
				kept("AddAt")
			}
			impl.SumTo(s, n)
			kept("SumTo")
			impl.FirstAbove(s, n)
			kept("FirstAbove")
			impl.BetweenOf(s, 0, n)
			impl.BetweenOf(s, n, len(plain))
			kept("BetweenOf")
		}
	}
}

// checkNewFrom expects that overwriting a result keeps the argument and the other results, and overwriting the argument keeps the results.
func checkNewFrom(t *testing.T, name string, argument []int, want []int, call func(argument []int) []int) {
	t.Helper()
	given := roomy(argument)
	checkListIsNew(t, name, want, func() []int { return call(given) })
	checkKept(t, "overwriting the result of "+name, given, argument)
	last := call(given)
	overwrite(given)
	if !sameList(last, want) {
		t.Fatalf("%s of %v shares memory with its argument", name, argument)
	}
}

func TestPromise19SumsAreNew(t *testing.T) {
	for _, l := range someWeights() {
		cells := plainCells(l)
		checkNewFrom(t, "SumsOf", l, cells, func(argument []int) []int {
			s, _ := impl.SumsOf(argument)
			return s.Cells
		})
		checkNewFrom(t, "ListOf", cells, l, func(argument []int) []int {
			list, _ := impl.ListOf(impl.Sums{Cells: argument})
			return list
		})
		for k, n := range l {
			for _, by := range []int{0, -n, greatestWeight - n} {
				changed := slices.Clone(l)
				changed[k] += by
				checkNewFrom(t, "AddAt", cells, plainCells(changed), func(argument []int) []int {
					s, _ := impl.AddAt(impl.Sums{Cells: argument}, k, by)
					return s.Cells
				})
			}
		}
	}
}
