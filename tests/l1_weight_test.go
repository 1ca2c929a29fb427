package tests

import (
	"math"
	"slices"
	"testing"

	"loop.example/g00564/impl"
)

// The tests below find groups, weights and quorums from the document's words, without masks.

// groupsUpTo returns every group of the voters 0..many - 1.
func groupsUpTo(many int) [][]int {
	groups := [][]int{{}}
	for voter := range many {
		for _, group := range groups {
			groups = append(groups, append(slices.Clone(group), voter))
		}
	}
	return groups
}

func plainSum(l []int) int {
	sum := 0
	for _, n := range l {
		sum += n
	}
	return sum
}

func plainWeight(stakes []int, who []int) int {
	sum := 0
	for voter, stake := range stakes {
		if slices.Contains(who, voter) {
			sum += stake
		}
	}
	return sum
}

func plainQuorums(stakes []int) [][]int {
	var quorums [][]int
	for _, group := range groupsUpTo(len(stakes)) {
		if 3*plainWeight(stakes, group) >= 2*plainSum(stakes) {
			quorums = append(quorums, group)
		}
	}
	return quorums
}

func plainBoth(a []int, b []int) []int {
	var both []int
	for _, voter := range a {
		if slices.Contains(b, voter) {
			both = append(both, voter)
		}
	}
	return both
}

func plainMask(who []int) int {
	mask := 0
	for _, voter := range who {
		mask += int(math.Pow(2, float64(voter)))
	}
	return mask
}

func plainSmallest(stakes []int) []int {
	quorums := plainQuorums(stakes)
	return slices.MinFunc(quorums, func(a, b []int) int {
		if len(a) != len(b) {
			return len(a) - len(b)
		}
		return plainMask(a) - plainMask(b)
	})
}

func plainLeastShared(stakes []int) int {
	quorums := plainQuorums(stakes)
	least := plainSum(stakes)
	for _, a := range quorums {
		for _, b := range quorums {
			least = min(least, plainWeight(stakes, plainBoth(a, b)))
		}
	}
	return least
}

func repeated(stake int, many int) []int {
	return slices.Repeat([]int{stake}, many)
}

// someStakes are valid stakes of every kind: ordinary ones, one voter, MaxVoters voters, stakes of MaxStake.
func someStakes() [][]int {
	all := [][]int{
		{1}, {impl.MaxStake},
		{1, impl.MaxStake}, {impl.MaxStake, 1},
		{5, 3, 9, 2}, {4, 4, 4, 6}, {7, 1, 1, 1, 1, 1}, {2, 2, 2, 1, 1, 1},
		{10, 20, 30, 40, 50, 60}, {100, 100, 100, 100, 100, 100, 100},
		{999, 1000, 998, 1000, 1}, {1, 2, 4, 8, 16, 32, 64, 128},
		repeated(1, 9), repeated(impl.MaxStake, 9),
		repeated(1, impl.MaxVoters), repeated(impl.MaxStake, impl.MaxVoters),
		{1, 2, 3, 4, 5, 6, 7, 8, 9, 10}, {512, 256, 128, 64, 32, 16, 8, 4, 2, 1},
		{1000, 1, 1, 1, 1, 1, 1, 1, 1, 1}, {1, 1, 1, 1, 1, 1, 1, 1, 1, 1000},
		{18, 1, 1, 1, 1, 1, 1, 1, 1, 1}, {17, 1, 1, 1, 1, 1, 1, 1, 1, 1},
	}
	return append(all, smallStakes()...)
}

// smallStakes are all stakes of one to four voters in 1..4.
func smallStakes() [][]int {
	var all [][]int
	last := [][]int{{}}
	for range 4 {
		var next [][]int
		for _, stakes := range last {
			for stake := 1; stake <= 4; stake++ {
				next = append(next, append(slices.Clone(stakes), stake))
			}
		}
		all = append(all, next...)
		last = next
	}
	return all
}

func badStakes() [][]int {
	return [][]int{
		nil, {}, repeated(1, impl.MaxVoters+1), repeated(1, 1000),
		{0}, {1, 0}, {0, 1}, {-1}, {1, 1, -1}, {impl.MaxStake + 1}, {1, impl.MaxStake + 1, 1},
		{math.MaxInt}, {math.MinInt}, {1, math.MaxInt}, {math.MinInt, 1},
	}
}

// badGroups are lists that are groups of no voters.
func badGroups() [][]int {
	return [][]int{
		{-1}, {-1, 0}, {impl.MaxVoters}, {0, impl.MaxVoters}, {0, 0}, {1, 1}, {1, 0}, {0, 2, 1}, {0, 1, 1},
		{9, 9}, {9, 0}, {math.MaxInt}, {math.MinInt}, {0, math.MaxInt}, {math.MinInt, 0},
		{0, 1, 2, 3, 4, 5, 6, 7, 8, 9, 10}, repeated(0, 1000),
	}
}

func TestWeightConstants(t *testing.T) {
	if impl.MaxVoters != 10 || impl.MaxStake != 1000 {
		t.Error(impl.MaxVoters, impl.MaxStake)
	}
}

func TestWeightExamples(t *testing.T) {
	s := []int{1, 1, 1}
	if n, ok := impl.WeightOf(s, []int{0, 2}); n != 2 || !ok {
		t.Error("WeightOf", n, ok)
	}
	if g, ok := impl.IsGreat(s, []int{0, 1}); !g || !ok {
		t.Error("IsGreat", g, ok)
	}
	if l, ok := impl.InBoth([]int{0, 1}, []int{1, 2}); !sameList(l, []int{1}) || !ok {
		t.Error("InBoth", l, ok)
	}
	if n, ok := impl.MaskOf([]int{0, 2}); n != 5 || !ok {
		t.Error("MaskOf", n, ok)
	}
	if l, ok := impl.OfMask(5); !sameList(l, []int{0, 2}) || !ok {
		t.Error("OfMask", l, ok)
	}
	if l, ok := impl.SmallestGreat(s); !sameList(l, []int{0, 1}) || !ok {
		t.Error("SmallestGreat", l, ok)
	}
	if n, ok := impl.LeastShared(s); n != 1 || !ok {
		t.Error("LeastShared", n, ok)
	}
}

func TestGoodStakes(t *testing.T) {
	for _, s := range someStakes() {
		if !impl.GoodStakes(s) {
			t.Errorf("GoodStakes(%v) is false", s)
		}
	}
	for _, s := range badStakes() {
		if impl.GoodStakes(s) {
			t.Errorf("GoodStakes(%v) is true", s)
		}
	}
}

func TestWeightAndQuorumOfEveryGroup(t *testing.T) {
	for _, s := range someStakes() {
		for _, group := range groupsUpTo(len(s)) {
			want := plainWeight(s, group)
			if n, ok := impl.WeightOf(s, group); n != want || !ok {
				t.Errorf("WeightOf(%v, %v) = %d, %v, want %d", s, group, n, ok, want)
			}
			great := 3*want >= 2*plainSum(s)
			if g, ok := impl.IsGreat(s, group); g != great || !ok {
				t.Errorf("IsGreat(%v, %v) = %v, %v, want %v", s, group, g, ok, great)
			}
		}
	}
}

// TestQuorumAtTwoThirds has groups with exactly two thirds of the total stake and groups just beside them.
func TestQuorumAtTwoThirds(t *testing.T) {
	cases := []struct {
		stakes []int
		who    []int
		want   bool
	}{
		{[]int{2, 1}, []int{0}, true},
		{[]int{2, 1}, []int{1}, false},
		{[]int{4, 4, 4}, []int{1, 2}, true},
		{[]int{4, 4, 5}, []int{0, 1}, false},
		{[]int{4, 4, 5}, []int{0, 2}, true},
		{[]int{199, 100}, []int{0}, false},
		{[]int{200, 100}, []int{0}, true},
		{[]int{200, 101}, []int{0}, false},
		{[]int{1000, 500}, []int{0}, true},
		{[]int{1000, 501}, []int{0}, false},
		{[]int{999, 500}, []int{0}, false},
		{[]int{1, 1}, []int{0}, false},
		{[]int{1, 1}, []int{0, 1}, true},
		{[]int{1}, []int{0}, true},
		{[]int{1}, nil, false},
		{[]int{impl.MaxStake}, []int{}, false},
		{repeated(1000, 9), []int{0, 1, 2, 3, 4, 5}, true},
		{repeated(1000, 9), []int{0, 1, 2, 3, 4}, false},
		{repeated(1000, 10), []int{3, 4, 5, 6, 7, 8}, false},
		{repeated(1000, 10), []int{3, 4, 5, 6, 7, 8, 9}, true},
		{[]int{1, 1, 1, 1, 1, 1, 1, 1, 1, 18}, []int{9}, true},
		{[]int{1, 1, 1, 1, 1, 1, 1, 1, 1, 17}, []int{9}, false},
	}
	for _, c := range cases {
		if g, ok := impl.IsGreat(c.stakes, c.who); g != c.want || !ok {
			t.Errorf("IsGreat(%v, %v) = %v, %v, want %v", c.stakes, c.who, g, ok, c.want)
		}
	}
}

func TestInBoth(t *testing.T) {
	groups := groupsUpTo(5)
	groups = append(groups, []int{0, 9}, []int{9}, []int{5, 6, 7, 8, 9}, []int{0, 1, 2, 3, 4, 5, 6, 7, 8, 9}, nil)
	for _, a := range groups {
		for _, b := range groups {
			if l, ok := impl.InBoth(a, b); !sameList(l, plainBoth(a, b)) || !ok {
				t.Errorf("InBoth(%v, %v) = %v, %v", a, b, l, ok)
			}
		}
	}
}

func TestMaskOfAndOfMaskAreInverse(t *testing.T) {
	seen := map[int]bool{}
	for _, group := range groupsUpTo(impl.MaxVoters) {
		mask, ok := impl.MaskOf(group)
		if mask != plainMask(group) || !ok {
			t.Errorf("MaskOf(%v) = %d, %v", group, mask, ok)
		}
		if l, ok := impl.OfMask(mask); !sameList(l, group) || !ok {
			t.Errorf("OfMask(%d) = %v, %v, want %v", mask, l, ok, group)
		}
		seen[mask] = true
	}
	if len(seen) != 1024 {
		t.Errorf("%d masks, want 1024", len(seen))
	}
}

func TestSmallestGreat(t *testing.T) {
	for _, s := range someStakes() {
		if l, ok := impl.SmallestGreat(s); !sameList(l, plainSmallest(s)) || !ok {
			t.Errorf("SmallestGreat(%v) = %v, %v, want %v", s, l, ok, plainSmallest(s))
		}
	}
	// The fewest voters come before the least mask, and the least mask before the greatest weight.
	if l, _ := impl.SmallestGreat([]int{1, 1, 1, 1, 8}); !sameList(l, []int{4}) {
		t.Error(l)
	}
	if l, _ := impl.SmallestGreat([]int{5, 6, 4, 1}); !sameList(l, []int{0, 1}) {
		t.Error(l)
	}
	if l, _ := impl.SmallestGreat(repeated(impl.MaxStake, impl.MaxVoters)); !sameList(l, []int{0, 1, 2, 3, 4, 5, 6}) {
		t.Error(l)
	}
}

func TestLeastShared(t *testing.T) {
	for _, s := range someStakes() {
		want := plainLeastShared(s)
		if n, ok := impl.LeastShared(s); n != want || !ok {
			t.Errorf("LeastShared(%v) = %d, %v, want %d", s, n, ok, want)
		}
	}
	// All voters together are the only quorum of these, and two quorums may be the same one.
	for _, s := range [][]int{{1}, {impl.MaxStake}, {1, 1}, {3, 2}} {
		if n, ok := impl.LeastShared(s); n != plainSum(s) || !ok {
			t.Errorf("LeastShared(%v) = %d, %v, want %d", s, n, ok, plainSum(s))
		}
	}
}

// TestPromise1 uses the exported functions alone: any two quorums share at least a third of the total stake.
func TestPromise1(t *testing.T) {
	for _, s := range someStakes() {
		total := plainSum(s)
		var quorums [][]int
		for mask := range 1 << len(s) {
			group, _ := impl.OfMask(mask)
			if great, ok := impl.IsGreat(s, group); great && ok {
				quorums = append(quorums, group)
			}
		}
		if len(quorums) == 0 {
			t.Fatalf("%v has no quorum", s)
		}
		least := total
		for i, a := range quorums {
			for _, b := range quorums[i:] {
				both, okBoth := impl.InBoth(a, b)
				weight, ok := impl.WeightOf(s, both)
				if !ok || !okBoth || 3*weight < total {
					t.Fatalf("%v: the quorums %v and %v share %v of weight %d, total %d", s, a, b, both, weight, total)
				}
				least = min(least, weight)
			}
		}
		if n, ok := impl.LeastShared(s); n != least || !ok || 3*n < total {
			t.Errorf("LeastShared(%v) = %d, %v, want %d of %d", s, n, ok, least, total)
		}
	}
}

// TestPromise1Tight: quorums of exactly two thirds share exactly a third.
func TestPromise1Tight(t *testing.T) {
	for _, s := range [][]int{{1, 1, 1}, {7, 7, 7}, repeated(impl.MaxStake, 3), repeated(impl.MaxStake, 9), {2, 2, 1, 1}} {
		if n, ok := impl.LeastShared(s); 3*n != plainSum(s) || !ok {
			t.Errorf("LeastShared(%v) = %d, %v", s, n, ok)
		}
	}
}

func checkStakesRefused(t *testing.T, s []int) {
	t.Helper()
	for _, group := range [][]int{nil, {0}, {0, 1}} {
		if n, ok := impl.WeightOf(s, group); n != 0 || ok {
			t.Errorf("WeightOf(%v, %v) = %d, %v", s, group, n, ok)
		}
		if g, ok := impl.IsGreat(s, group); g || ok {
			t.Errorf("IsGreat(%v, %v) = %v, %v", s, group, g, ok)
		}
	}
	if l, ok := impl.SmallestGreat(s); len(l) != 0 || ok {
		t.Errorf("SmallestGreat(%v) = %v, %v", s, l, ok)
	}
	if n, ok := impl.LeastShared(s); n != 0 || ok {
		t.Errorf("LeastShared(%v) = %d, %v", s, n, ok)
	}
}

func checkGroupRefused(t *testing.T, s []int, group []int) {
	t.Helper()
	if n, ok := impl.WeightOf(s, group); n != 0 || ok {
		t.Errorf("WeightOf(%v, %v) = %d, %v", s, group, n, ok)
	}
	if g, ok := impl.IsGreat(s, group); g || ok {
		t.Errorf("IsGreat(%v, %v) = %v, %v", s, group, g, ok)
	}
}

func TestPromise19InvalidStakes(t *testing.T) {
	for _, s := range badStakes() {
		checkStakesRefused(t, s)
	}
}

func TestPromise19InvalidGroups(t *testing.T) {
	all := repeated(1, impl.MaxVoters)
	for _, group := range badGroups() {
		checkGroupRefused(t, all, group)
		if n, ok := impl.MaskOf(group); n != 0 || ok {
			t.Errorf("MaskOf(%v) = %d, %v", group, n, ok)
		}
		for _, other := range [][]int{nil, {0}, {1, 2}, group} {
			if l, ok := impl.InBoth(group, other); len(l) != 0 || ok {
				t.Errorf("InBoth(%v, %v) = %v, %v", group, other, l, ok)
			}
			if l, ok := impl.InBoth(other, group); len(l) != 0 || ok {
				t.Errorf("InBoth(%v, %v) = %v, %v", other, group, l, ok)
			}
		}
	}
}

// TestPromise19VotersWithoutStake has groups with a voter number that is not less than the number of stakes.
func TestPromise19VotersWithoutStake(t *testing.T) {
	for many := 1; many < impl.MaxVoters; many++ {
		s := repeated(1, many)
		for voter := many; voter < impl.MaxVoters; voter++ {
			checkGroupRefused(t, s, []int{voter})
			checkGroupRefused(t, s, []int{0, voter})
		}
		if n, ok := impl.WeightOf(s, []int{many - 1}); n != 1 || !ok {
			t.Errorf("WeightOf(%v, [%d]) = %d, %v", s, many-1, n, ok)
		}
	}
	// A spare element behind the length of the stakes is not a stake.
	checkGroupRefused(t, roomy([]int{1, 1}), []int{2})
}

func TestPromise19InvalidMasks(t *testing.T) {
	for _, mask := range []int{-1, -2, -1023, -1024, 1024, 1025, 2047, 2048, 1 << 62, math.MaxInt, math.MinInt} {
		if l, ok := impl.OfMask(mask); len(l) != 0 || ok {
			t.Errorf("OfMask(%d) = %v, %v", mask, l, ok)
		}
	}
}

func TestPromise19EmptyAndNilAreTheSame(t *testing.T) {
	s := []int{1, 2, 3}
	for _, empty := range [][]int{nil, {}, roomy(nil)} {
		if n, ok := impl.WeightOf(s, empty); n != 0 || !ok {
			t.Error("WeightOf", n, ok)
		}
		if g, ok := impl.IsGreat(s, empty); g || !ok {
			t.Error("IsGreat", g, ok)
		}
		if n, ok := impl.MaskOf(empty); n != 0 || !ok {
			t.Error("MaskOf", n, ok)
		}
		for _, other := range [][]int{nil, {}, {0, 1}} {
			if l, ok := impl.InBoth(empty, other); len(l) != 0 || !ok {
				t.Error("InBoth", l, ok)
			}
			if l, ok := impl.InBoth(other, empty); len(l) != 0 || !ok {
				t.Error("InBoth", l, ok)
			}
		}
		if impl.GoodStakes(empty) {
			t.Error("GoodStakes of no stakes is true")
		}
		checkStakesRefused(t, empty)
	}
	if l, ok := impl.OfMask(0); len(l) != 0 || !ok {
		t.Error("OfMask", l, ok)
	}
}

// TestPromise19ArgumentsAreKept gives every function valid and invalid lists, and looks at them afterwards.
func TestPromise19ArgumentsAreKept(t *testing.T) {
	stakesLists := append(badStakes(), []int{3, 1, 2}, repeated(impl.MaxStake, impl.MaxVoters))
	groups := append(badGroups(), nil, []int{0, 2}, []int{1, 2}, []int{0, 1, 2})
	for _, stakes := range stakesLists {
		for _, group := range groups {
			s, a, b := roomy(stakes), roomy(group), roomy([]int{0, 2})
			check := func(name string) {
				t.Helper()
				checkKept(t, name, s, stakes)
				checkKept(t, name, a, group)
				checkKept(t, name, b, []int{0, 2})
			}
			impl.GoodStakes(s)
			check("GoodStakes")
			impl.WeightOf(s, a)
			check("WeightOf")
			impl.IsGreat(s, a)
			check("IsGreat")
			impl.InBoth(a, b)
			impl.InBoth(b, a)
			check("InBoth")
			impl.MaskOf(a)
			check("MaskOf")
			impl.SmallestGreat(s)
			check("SmallestGreat")
			impl.LeastShared(s)
			check("LeastShared")
		}
	}
}

// TestPromise19ResultsAreNew overwrites each result and expects neither an argument nor a later result to change.
func TestPromise19ResultsAreNew(t *testing.T) {
	a, b := []int{0, 1, 2}, []int{0, 1, 2}
	for range 2 {
		l, ok := impl.InBoth(a, b)
		if !ok || !sameList(l, []int{0, 1, 2}) {
			t.Error("InBoth", l, ok)
		}
		overwrite(l)
	}
	same, _ := impl.InBoth(a, a)
	overwrite(same)
	if !sameList(a, []int{0, 1, 2}) || !sameList(b, []int{0, 1, 2}) {
		t.Error("InBoth shares memory with an argument", a, b)
	}
	for range 2 {
		l, ok := impl.OfMask(1023)
		if !ok || !sameList(l, []int{0, 1, 2, 3, 4, 5, 6, 7, 8, 9}) {
			t.Error("OfMask", l, ok)
		}
		overwrite(l)
	}
	s := []int{1, 1, 1}
	for range 2 {
		l, ok := impl.SmallestGreat(s)
		if !ok || !sameList(l, []int{0, 1}) {
			t.Error("SmallestGreat", l, ok)
		}
		overwrite(l)
	}
	if !sameList(s, []int{1, 1, 1}) {
		t.Error("SmallestGreat shares memory with its argument", s)
	}
}
