package tests

import (
	"math"
	"slices"
	"testing"

	"loop.example/g00564/impl"
)

// The tests below find pools, liars and latest votes in plain lists of votes, from the document's words, without maps.

func exampleVotes() []impl.Vote {
	return []impl.Vote{{Who: 2, Slot: 4, Block: 1}, {Who: 0, Slot: 5, Block: 4}, {Who: 1, Slot: 5, Block: 3}, {Who: 1, Slot: 5, Block: 2}}
}

// votesBy returns the votes whose Who, Slot and Block are given.
func votesBy(triples [][3]int) []impl.Vote {
	var votes []impl.Vote
	for _, n := range triples {
		votes = append(votes, impl.Vote{Who: n[0], Slot: n[1], Block: n[2]})
	}
	return votes
}

// voteBefore is the order of a pool: by Who, then Slot, then Block.
func voteBefore(a impl.Vote, b impl.Vote) bool {
	if a.Who != b.Who {
		return a.Who < b.Who
	}
	if a.Slot != b.Slot {
		return a.Slot < b.Slot
	}
	return a.Block < b.Block
}

// plainPool puts each vote that is not there yet ahead of the first greater one.
func plainPool(votes []impl.Vote) []impl.Vote {
	var pool []impl.Vote
	for _, v := range votes {
		if slices.Contains(pool, v) {
			continue
		}
		at := 0
		for at < len(pool) && voteBefore(pool[at], v) {
			at++
		}
		pool = slices.Insert(pool, at, v)
	}
	return pool
}

func plainIsLiar(votes []impl.Vote, who int) bool {
	for _, a := range votes {
		for _, b := range votes {
			if a.Who == who && b.Who == who && a.Slot == b.Slot && a.Block != b.Block {
				return true
			}
		}
	}
	return false
}

func plainLiars(votes []impl.Vote) []int {
	var liars []int
	for who := range impl.MaxVoters {
		if plainIsLiar(votes, who) {
			liars = append(liars, who)
		}
	}
	return liars
}

func plainLatest(votes []impl.Vote) []impl.Vote {
	var latest []impl.Vote
	for who := range impl.MaxVoters {
		best := impl.Vote{}
		for _, v := range votes {
			if v.Who == who && v.Slot > best.Slot {
				best = v
			}
		}
		if best.Slot > 0 && !plainIsLiar(votes, who) {
			latest = append(latest, best)
		}
	}
	return latest
}

func plainWeights(tree []impl.Block, stakes []int, votes []impl.Vote) []int {
	weights := make([]int, len(tree))
	for b := range tree {
		for _, v := range plainLatest(votes) {
			if v.Block == b {
				weights[b] += stakes[v.Who]
			}
		}
	}
	return weights
}

func plainVotersFor(tree []impl.Block, votes []impl.Vote, b int) []int {
	var voters []int
	for _, v := range plainLatest(votes) {
		if plainAbove(tree, b, v.Block) {
			voters = append(voters, v.Who)
		}
	}
	return voters
}

// poolCase has what a pool is made of.
type poolCase struct {
	tree   []impl.Block
	stakes []int
	votes  []impl.Vote
}

// differentVotes returns votes in slots that no tree of the tests reaches; none of them equivocates.
func differentVotes(tree []impl.Block, voters int, many int) []impl.Vote {
	var votes []impl.Vote
	for k := range many {
		votes = append(votes, impl.Vote{Who: k % voters, Slot: 1000 - k/voters, Block: k * 7 % len(tree)})
	}
	return votes
}

// drawnVotes returns valid votes in the slot of their block or shortly after it, some of which may be equal or equivocate.
func drawnVotes(tree []impl.Block, voters int, many int, seed int) []impl.Vote {
	whos := drawnNumbers(many, voters-1, seed)
	blocks := drawnNumbers(many, len(tree)-1, seed+1)
	later := drawnNumbers(many, 6, seed+2)
	var votes []impl.Vote
	for k := range many {
		slot := max(tree[blocks[k]].Slot, 1) + later[k]
		votes = append(votes, impl.Vote{Who: whos[k], Slot: slot, Block: blocks[k]})
	}
	return votes
}

func somePools() []poolCase {
	tr, s := exampleTree(), []int{1, 1, 1}
	path, all := pathTree(impl.MaxBlocks), []int{1, 2, 4, 8, 16, 32, 64, 128, 256, 512}
	cases := []poolCase{
		{tr, s, exampleVotes()},
		{tr, s, nil},
		{pathTree(1), []int{7}, nil},
		{pathTree(1), []int{impl.MaxStake}, []impl.Vote{{Slot: 1}, {Slot: impl.MaxSlot}}},
		{path, all, differentVotes(path, len(all), impl.MaxVotes)},
		{path, all, differentVotes(path, len(all), impl.MaxVotes-1)},
		{path, []int{3}, differentVotes(path, 1, impl.MaxVotes)},
		{starTree(impl.MaxBlocks), repeated(impl.MaxStake, impl.MaxVoters), differentVotes(path, impl.MaxVoters, impl.MaxVotes)},
	}
	for seed, tree := range someTrees() {
		voters := seed%impl.MaxVoters + 1
		stakes := drawnNumbers(voters, impl.MaxStake-1, seed+1)
		for who := range stakes {
			stakes[who]++
		}
		many := seed * 5 % (impl.MaxVotes + 1)
		cases = append(cases, poolCase{tree, stakes, drawnVotes(tree, voters, many, seed+1)})
	}
	return cases
}

// smallPools has every set of the votes of two voters in two slots for three blocks.
func smallPools() []poolCase {
	tree, stakes := pathTree(3), []int{3, 5}
	from := []impl.Vote{{Who: 1, Slot: 9, Block: 1}, {Who: 0, Slot: 9, Block: 2}, {Who: 0, Slot: 8, Block: 0}, {Who: 0, Slot: 8, Block: 2}, {Who: 1, Slot: 8, Block: 2}, {Who: 1, Slot: 8, Block: 1}, {Who: 0, Slot: 9, Block: 1}, {Who: 1, Slot: 9, Block: 0}, {Who: 0, Slot: 8, Block: 1}}
	var cases []poolCase
	for mask := range 1 << len(from) {
		var votes []impl.Vote
		for k, v := range from {
			if mask>>k&1 == 1 {
				votes = append(votes, v)
			}
		}
		cases = append(cases, poolCase{tree, stakes, votes})
	}
	return cases
}

func poolOf(t *testing.T, c poolCase) impl.Pool {
	t.Helper()
	p, ok := impl.PoolOf(c.tree, c.stakes, c.votes)
	if !ok {
		t.Fatalf("PoolOf(%v, %v, %v) is refused", c.tree, c.stakes, c.votes)
	}
	return p
}

// checkPool expects every function to return of p what the document's words say of the votes.
func checkPool(t *testing.T, c poolCase, p impl.Pool) {
	t.Helper()
	if want := plainPool(c.votes); !slices.Equal(p.Votes, want) {
		t.Fatalf("the pool of %v is %v, want %v", c.votes, p.Votes, want)
	}
	if !impl.GoodPool(c.tree, c.stakes, p) {
		t.Fatalf("GoodPool(%v, %v, %v) is false", c.tree, c.stakes, p)
	}
	if l, ok := impl.LiarsIn(c.tree, c.stakes, p); !sameList(l, plainLiars(c.votes)) || !ok {
		t.Fatalf("LiarsIn %v = %v, %v, want %v", p, l, ok, plainLiars(c.votes))
	}
	if l, ok := impl.LatestIn(c.tree, c.stakes, p); !slices.Equal(l, plainLatest(c.votes)) || !ok {
		t.Fatalf("LatestIn %v = %v, %v, want %v", p, l, ok, plainLatest(c.votes))
	}
	if l, ok := impl.WeightsIn(c.tree, c.stakes, p); !sameList(l, plainWeights(c.tree, c.stakes, c.votes)) || !ok {
		t.Fatalf("WeightsIn %v, %v, %v = %v, %v", c.tree, c.stakes, p, l, ok)
	}
	for b := range c.tree {
		if l, ok := impl.VotersFor(c.tree, c.stakes, p, b); !sameList(l, plainVotersFor(c.tree, c.votes, b)) || !ok {
			t.Fatalf("VotersFor %v, %v, %d = %v, %v", c.tree, p, b, l, ok)
		}
	}
}

func TestVotesConstants(t *testing.T) {
	if impl.MaxVotes != 60 {
		t.Error(impl.MaxVotes)
	}
}

func TestVotesExamples(t *testing.T) {
	tr, s := exampleTree(), []int{1, 1, 1}
	p, ok := impl.PoolOf(tr, s, exampleVotes())
	want := []impl.Vote{{Who: 0, Slot: 5, Block: 4}, {Who: 1, Slot: 5, Block: 2}, {Who: 1, Slot: 5, Block: 3}, {Who: 2, Slot: 4, Block: 1}}
	if !slices.Equal(p.Votes, want) || !ok {
		t.Fatal("PoolOf", p, ok)
	}
	q, code, ok := impl.PutVote(tr, s, p, p.Votes[0])
	if !slices.Equal(q.Votes, want) || code != 1 || !ok {
		t.Error("PutVote", q, code, ok)
	}
	if m, ok := impl.MergePools(tr, s, p, q); !slices.Equal(m.Votes, want) || !ok {
		t.Error("MergePools", m, ok)
	}
	if l, ok := impl.LiarsIn(tr, s, p); !sameList(l, []int{1}) || !ok {
		t.Error("LiarsIn", l, ok)
	}
	if l, ok := impl.LatestIn(tr, s, p); !slices.Equal(l, []impl.Vote{{Who: 0, Slot: 5, Block: 4}, {Who: 2, Slot: 4, Block: 1}}) || !ok {
		t.Error("LatestIn", l, ok)
	}
	if l, ok := impl.WeightsIn(tr, s, p); !sameList(l, []int{0, 1, 0, 0, 1}) || !ok {
		t.Error("WeightsIn", l, ok)
	}
	if l, ok := impl.VotersFor(tr, s, p, 1); !sameList(l, []int{0, 2}) || !ok {
		t.Error("VotersFor", l, ok)
	}
}

// otherOrders returns the votes in orders other than their own.
func otherOrders(votes []impl.Vote) [][]impl.Vote {
	reversed := slices.Clone(votes)
	slices.Reverse(reversed)
	sorted := plainPool(votes)
	backwards := slices.Clone(sorted)
	slices.Reverse(backwards)
	orders := [][]impl.Vote{reversed, sorted, backwards}
	if len(votes) > 1 {
		half := len(votes) / 2
		orders = append(orders, slices.Concat(votes[half:], votes[:half]), slices.Concat(votes[1:], votes[:1]))
		drawn := slices.Clone(votes)
		for k, n := range drawnNumbers(len(votes), 1000, len(votes)) {
			at := n % (k + 1)
			drawn[k], drawn[at] = drawn[at], drawn[k]
		}
		orders = append(orders, drawn)
	}
	return orders
}

func TestPromise6PoolOfAnyOrder(t *testing.T) {
	for _, c := range append(somePools(), smallPools()...) {
		p := poolOf(t, c)
		checkPool(t, c, p)
		for _, votes := range otherOrders(c.votes) {
			repeats := [][]impl.Vote{votes, slices.Concat(votes, c.votes), slices.Concat(c.votes, votes, votes)}
			if len(votes) > 0 {
				repeats = append(repeats, slices.Insert(slices.Clone(votes), len(votes)/2, votes[0]))
			}
			for _, l := range repeats {
				if q, ok := impl.PoolOf(c.tree, c.stakes, l); !slices.Equal(q.Votes, p.Votes) || !ok {
					t.Fatalf("PoolOf %v = %v, %v, but of another order %v", l, q, ok, p)
				}
			}
		}
	}
}

// putAll puts the votes one by one and expects code 1 exactly for those that are there already.
func putAll(t *testing.T, c poolCase, votes []impl.Vote) impl.Pool {
	t.Helper()
	var p impl.Pool
	for _, v := range votes {
		want := 0
		if slices.Contains(p.Votes, v) {
			want = 1
		}
		next, code, ok := impl.PutVote(c.tree, c.stakes, p, v)
		if code != want || !ok || !slices.Equal(next.Votes, plainPool(append(slices.Clone(p.Votes), v))) {
			t.Fatalf("PutVote %v, %v = %v, %d, %v", p, v, next, code, ok)
		}
		p = next
	}
	return p
}

func TestPromise6PutVoteInAnyOrder(t *testing.T) {
	for _, c := range append(somePools(), smallPools()...) {
		p := poolOf(t, c)
		for _, votes := range append(otherOrders(c.votes), c.votes, slices.Concat(c.votes, c.votes)) {
			if q := putAll(t, c, votes); !slices.Equal(q.Votes, p.Votes) {
				t.Fatalf("the votes %v one by one are %v, but PoolOf is %v", votes, q, p)
			}
		}
	}
}

// TestPromise6MergePools has parts that share nothing, parts that share votes, and a part that is all of it.
func TestPromise6MergePools(t *testing.T) {
	for _, c := range append(somePools(), smallPools()...) {
		p := poolOf(t, c)
		for _, votes := range append(otherOrders(c.votes), c.votes) {
			many := len(votes)
			for _, cut := range [][2]int{{0, 0}, {many / 2, many / 2}, {many / 3, 2 * many / 3}, {0, many}, {many, many}} {
				a := poolOf(t, poolCase{c.tree, c.stakes, votes[:cut[1]]})
				b := poolOf(t, poolCase{c.tree, c.stakes, votes[cut[0]:]})
				ab, okAB := impl.MergePools(c.tree, c.stakes, a, b)
				ba, okBA := impl.MergePools(c.tree, c.stakes, b, a)
				if !slices.Equal(ab.Votes, p.Votes) || !slices.Equal(ba.Votes, p.Votes) || !okAB || !okBA {
					t.Fatalf("MergePools %v, %v = %v, %v and in the other order %v, %v, want %v", a, b, ab, okAB, ba, okBA, p)
				}
			}
		}
	}
}

// TestPromise6EachVoterOnce uses the package alone: a voter with a vote is a liar or stands once among the latest.
func TestPromise6EachVoterOnce(t *testing.T) {
	seenLiars, seenLater := 0, 0
	for _, c := range append(somePools(), smallPools()...) {
		p := poolOf(t, c)
		liars, okLiars := impl.LiarsIn(c.tree, c.stakes, p)
		latest, ok := impl.LatestIn(c.tree, c.stakes, p)
		if !ok || !okLiars || !slices.IsSorted(liars) {
			t.Fatal(p, liars, okLiars, latest, ok)
		}
		for who := range c.stakes {
			votes, greatest := 0, 0
			for _, v := range p.Votes {
				if v.Who == who {
					votes++
					greatest = max(greatest, v.Slot)
				}
			}
			var counted []impl.Vote
			for _, v := range latest {
				if v.Who == who {
					counted = append(counted, v)
				}
			}
			isLiar := slices.Contains(liars, who)
			if votes == 0 && (isLiar || len(counted) != 0) || isLiar && len(counted) != 0 {
				t.Fatalf("voter %d has %d votes of %v, liars %v, latest %v", who, votes, p, liars, latest)
			}
			if votes > 0 && !isLiar && (len(counted) != 1 || counted[0].Slot != greatest || !slices.Contains(p.Votes, counted[0])) {
				t.Fatalf("voter %d counts by %v of %v", who, counted, p)
			}
			if isLiar {
				seenLiars++
			} else if votes > 1 {
				seenLater++
			}
		}
	}
	if seenLiars < 100 || seenLater < 100 {
		t.Errorf("only %d liars and %d voters with several votes", seenLiars, seenLater)
	}
}

// TestEquivocations has the votes of voter 1 beside one vote of voter 0.
func TestEquivocations(t *testing.T) {
	tr, s := exampleTree(), []int{1, 1, 1}
	cases := []struct {
		name   string
		votes  []impl.Vote
		isLiar bool
		block  int
	}{
		{"one vote", votesBy([][3]int{{1, 5, 3}}), false, 3},
		{"the same vote twice", votesBy([][3]int{{1, 5, 3}, {1, 5, 3}}), false, 3},
		{"the same block in two slots", votesBy([][3]int{{1, 5, 3}, {1, 6, 3}}), false, 3},
		{"two blocks in two slots", votesBy([][3]int{{1, 5, 3}, {1, 6, 2}}), false, 2},
		{"two blocks in two slots, the later one first", votesBy([][3]int{{1, 6, 2}, {1, 5, 3}}), false, 2},
		{"a lesser block in a later slot", votesBy([][3]int{{1, 5, 4}, {1, 6, 0}}), false, 0},
		{"two blocks in one slot", votesBy([][3]int{{1, 5, 3}, {1, 5, 2}}), true, 0},
		{"two blocks on one path in one slot", votesBy([][3]int{{1, 5, 3}, {1, 5, 4}}), true, 0},
		{"the genesis block and another in one slot", votesBy([][3]int{{1, 5, 0}, {1, 5, 1}}), true, 0},
		{"three blocks in one slot", votesBy([][3]int{{1, 5, 3}, {1, 5, 2}, {1, 5, 1}}), true, 0},
		{"two blocks in the first slot of two", votesBy([][3]int{{1, 5, 3}, {1, 5, 2}, {1, 6, 4}}), true, 0},
		{"two blocks in the first slot of three", votesBy([][3]int{{1, 5, 3}, {1, 5, 2}, {1, 6, 4}, {1, 7, 4}}), true, 0},
		{"two blocks in the second slot of three", votesBy([][3]int{{1, 4, 3}, {1, 5, 2}, {1, 5, 3}, {1, 7, 4}}), true, 0},
		{"two blocks in the last slot of three", votesBy([][3]int{{1, 4, 3}, {1, 5, 3}, {1, 7, 3}, {1, 7, 4}}), true, 0},
		{"two blocks in each of two slots", votesBy([][3]int{{1, 5, 3}, {1, 5, 2}, {1, 6, 3}, {1, 6, 2}}), true, 0},
		{"two blocks in MaxSlot", votesBy([][3]int{{1, impl.MaxSlot, 3}, {1, impl.MaxSlot, 2}}), true, 0},
		{"two blocks in slot 1", votesBy([][3]int{{1, 1, 0}, {1, 1, 1}}), true, 0},
	}
	for _, c := range cases {
		// Voter 0 votes in every one of those slots for another block, which is no equivocation.
		votes := votesBy([][3]int{{0, 5, 1}, {2, 5, 4}})
		for _, v := range c.votes {
			votes = append(votes, impl.Vote{Who: 0, Slot: v.Slot, Block: 1})
		}
		p := poolOf(t, poolCase{tr, s, append(votes, c.votes...)})
		liars, ok := impl.LiarsIn(tr, s, p)
		latest, okLatest := impl.LatestIn(tr, s, p)
		if !ok || !okLatest || len(latest) == 0 || latest[0].Who != 0 || latest[0].Block != 1 || latest[len(latest)-1].Who != 2 {
			t.Fatalf("%s: %v, %v, %v, %v", c.name, liars, ok, latest, okLatest)
		}
		if c.isLiar {
			if !sameList(liars, []int{1}) || len(latest) != 2 {
				t.Errorf("%s: liars %v, latest %v", c.name, liars, latest)
			}
		} else if len(liars) != 0 || len(latest) != 3 || latest[1].Who != 1 || latest[1].Block != c.block {
			t.Errorf("%s: liars %v, latest %v", c.name, liars, latest)
		}
	}
}

// TestLiarsOfEveryVoter: each voter may lie alone, and all may lie together.
func TestLiarsOfEveryVoter(t *testing.T) {
	tr, s := exampleTree(), repeated(2, impl.MaxVoters)
	for _, liars := range append(groupsUpTo(5), []int{9}, []int{0, 9}, []int{0, 1, 2, 3, 4, 5, 6, 7, 8, 9}) {
		var votes []impl.Vote
		for who := range s {
			votes = append(votes, impl.Vote{Who: who, Slot: 7, Block: 4})
			if slices.Contains(liars, who) {
				votes = append(votes, impl.Vote{Who: who, Slot: 7, Block: 2})
			}
		}
		p := poolOf(t, poolCase{tr, s, votes})
		if l, ok := impl.LiarsIn(tr, s, p); !sameList(l, liars) || !ok {
			t.Errorf("LiarsIn = %v, %v, want %v", l, ok, liars)
		}
		w, ok := impl.WeightsIn(tr, s, p)
		if want := []int{0, 0, 0, 0, 2 * (len(s) - len(liars))}; !sameList(w, want) || !ok {
			t.Errorf("WeightsIn = %v, %v, want %v", w, ok, want)
		}
	}
}

// TestWeightsAddUp: the weights are the stakes of those who count, and VotersFor block 0 returns all of them.
func TestWeightsAddUp(t *testing.T) {
	for _, c := range append(somePools(), smallPools()...) {
		p := poolOf(t, c)
		latest, _ := impl.LatestIn(c.tree, c.stakes, p)
		var voters []int
		for _, v := range latest {
			voters = append(voters, v.Who)
		}
		weights, ok := impl.WeightsIn(c.tree, c.stakes, p)
		if len(weights) != len(c.tree) || plainSum(weights) != plainWeight(c.stakes, voters) || !ok {
			t.Fatalf("WeightsIn %v, %v = %v, %v", c.stakes, p, weights, ok)
		}
		if l, ok := impl.VotersFor(c.tree, c.stakes, p, 0); !sameList(l, voters) || !ok {
			t.Fatalf("VotersFor %v, 0 = %v, %v, want %v", p, l, ok, voters)
		}
		for b := range c.tree {
			forIt, _ := impl.VotersFor(c.tree, c.stakes, p, b)
			below, _ := impl.BelowOf(c.tree, b)
			sum := 0
			for _, at := range below {
				sum += weights[at]
			}
			if weight, ok := impl.WeightOf(c.stakes, forIt); weight != sum || !ok {
				t.Fatalf("VotersFor %v, %d = %v of weight %d, want %d", p, b, forIt, weight, sum)
			}
		}
	}
}

// TestVotersForEveryBlock has one vote for each of ten blocks.
func TestVotersForEveryBlock(t *testing.T) {
	tree := treeBy(10, func(b int) int { return (b - 1) / 2 })
	stakes := repeated(1, 10)
	var votes []impl.Vote
	for who := range stakes {
		votes = append(votes, impl.Vote{Who: who, Slot: 100, Block: 9 - who})
	}
	p := poolOf(t, poolCase{tree, stakes, votes})
	want := [][]int{{0, 1, 2, 3, 4, 5, 6, 7, 8, 9}, {0, 1, 2, 5, 6, 8}, {3, 4, 7}, {1, 2, 6}, {0, 5}, {4}, {3}, {2}, {1}, {0}}
	for b := range tree {
		if l, ok := impl.VotersFor(tree, stakes, p, b); !sameList(l, want[b]) || !ok {
			t.Errorf("VotersFor %d = %v, %v, want %v", b, l, ok, want[b])
		}
	}
}

func TestPutVoteCodes(t *testing.T) {
	tree, stakes := pathTree(impl.MaxBlocks), repeated(1, impl.MaxVoters)
	votes := differentVotes(tree, impl.MaxVoters, impl.MaxVotes+1)
	last := votes[impl.MaxVotes]
	for _, many := range []int{0, 1, 2, impl.MaxVotes - 1, impl.MaxVotes} {
		p := poolOf(t, poolCase{tree, stakes, votes[:many]})
		for _, v := range p.Votes {
			if q, code, ok := impl.PutVote(tree, stakes, p, v); code != 1 || !ok || !slices.Equal(q.Votes, p.Votes) {
				t.Errorf("PutVote of a vote of %d = %v, %d, %v", many, q, code, ok)
			}
		}
		q, code, ok := impl.PutVote(tree, stakes, p, last)
		if many < impl.MaxVotes {
			if code != 0 || !ok || !slices.Equal(q.Votes, plainPool(append(slices.Clone(p.Votes), last))) {
				t.Errorf("PutVote of another vote than %d = %v, %d, %v", many, q, code, ok)
			}
		} else if code != 2 || !ok || !slices.Equal(q.Votes, p.Votes) {
			t.Errorf("PutVote of another vote than MaxVotes = %v, %d, %v", q, code, ok)
		}
	}
}

// TestPutVoteBesideAVote: a vote that differs from one of the pool in one field alone is not contained.
func TestPutVoteBesideAVote(t *testing.T) {
	tr, s := exampleTree(), []int{1, 1, 1}
	p := impl.Pool{Votes: []impl.Vote{{Who: 1, Slot: 5, Block: 2}}}
	for _, v := range votesBy([][3]int{{0, 5, 2}, {2, 5, 2}, {1, 4, 2}, {1, 6, 2}, {1, 5, 1}, {1, 5, 3}}) {
		q, code, ok := impl.PutVote(tr, s, p, v)
		if code != 0 || !ok || !slices.Equal(q.Votes, plainPool([]impl.Vote{p.Votes[0], v})) {
			t.Errorf("PutVote %v, %v = %v, %d, %v", p, v, q, code, ok)
		}
	}
}

func TestPoolOfNumbersOfVotes(t *testing.T) {
	for _, voters := range []int{1, 3, impl.MaxVoters} {
		tree, stakes := pathTree(impl.MaxBlocks), repeated(5, voters)
		for _, many := range []int{0, 1, impl.MaxVotes - 1, impl.MaxVotes, impl.MaxVotes + 1, impl.MaxVotes + 2, 3 * impl.MaxVotes} {
			votes := differentVotes(tree, voters, many)
			for _, l := range [][]impl.Vote{votes, slices.Concat(votes, votes), slices.Repeat(votes, 20)} {
				p, ok := impl.PoolOf(tree, stakes, l)
				if many > impl.MaxVotes {
					if len(p.Votes) != 0 || ok {
						t.Errorf("PoolOf %d different votes = %v, %v", many, p, ok)
					}
				} else if !slices.Equal(p.Votes, plainPool(votes)) || !ok {
					t.Errorf("PoolOf %d different votes = %v, %v", many, p, ok)
				}
			}
			if is := impl.GoodPool(tree, stakes, impl.Pool{Votes: plainPool(votes)}); is != (many <= impl.MaxVotes) {
				t.Errorf("GoodPool of %d votes is %v", many, is)
			}
		}
	}
}

func TestMergePoolsNumbersOfVotes(t *testing.T) {
	tree, stakes := pathTree(impl.MaxBlocks), repeated(5, 7)
	votes := differentVotes(tree, 7, 2*impl.MaxVotes)
	cases := []struct{ endA, beginB, endB int }{
		{0, 0, 0}, {0, 0, 1}, {1, 1, 2}, {30, 30, 60}, {30, 0, 60}, {60, 0, 60}, {60, 60, 60}, {1, 1, 60}, {59, 59, 60}, {60, 59, 60}, {60, 1, 60},
		{30, 30, 61}, {60, 60, 61}, {1, 1, 61}, {60, 1, 61}, {59, 59, 61}, {60, 60, 120}, {31, 30, 60}, {31, 31, 61},
	}
	for _, c := range cases {
		a := impl.Pool{Votes: plainPool(votes[:c.endA])}
		b := impl.Pool{Votes: plainPool(votes[c.beginB:c.endB])}
		want := plainPool(slices.Concat(a.Votes, b.Votes))
		for range 2 {
			p, ok := impl.MergePools(tree, stakes, a, b)
			if len(want) > impl.MaxVotes {
				if len(p.Votes) != 0 || ok {
					t.Errorf("MergePools of %d votes in all = %v, %v", len(want), p, ok)
				}
			} else if !slices.Equal(p.Votes, want) || !ok {
				t.Errorf("MergePools of %d votes in all = %v, %v", len(want), p, ok)
			}
			a, b = b, a
		}
	}
}

// checkVote expects every function that takes votes to accept or to refuse this one.
func checkVote(t *testing.T, tree []impl.Block, stakes []int, v impl.Vote, want bool) {
	t.Helper()
	one := impl.Pool{Votes: []impl.Vote{v}}
	if is := impl.GoodPool(tree, stakes, one); is != want {
		t.Errorf("GoodPool(%v, %v, %v) is %v", tree, stakes, one, is)
	}
	p, ok := impl.PoolOf(tree, stakes, one.Votes)
	q, code, okPut := impl.PutVote(tree, stakes, impl.Pool{}, v)
	if want {
		if !slices.Equal(p.Votes, one.Votes) || !slices.Equal(q.Votes, one.Votes) || code != 0 || !ok || !okPut {
			t.Errorf("%v for %v, %v: PoolOf = %v, %v, PutVote = %v, %d, %v", v, tree, stakes, p, ok, q, code, okPut)
		}
		checkPool(t, poolCase{tree, stakes, one.Votes}, p)
		return
	}
	if len(p.Votes) != 0 || len(q.Votes) != 0 || code != 0 || ok || okPut {
		t.Errorf("%v for %v, %v: PoolOf = %v, %v, PutVote = %v, %d, %v", v, tree, stakes, p, ok, q, code, okPut)
	}
	checkPoolRefused(t, tree, stakes, one)
}

func TestVoteBounds(t *testing.T) {
	tr, s := exampleTree(), []int{1, 1, 1}
	far := []impl.Block{{Parent: -1}, {Parent: 0, Slot: impl.MaxSlot - 1}, {Parent: 1, Slot: impl.MaxSlot}}
	cases := []struct {
		tree []impl.Block
		vote impl.Vote
		want bool
	}{
		{tr, impl.Vote{Who: -1, Slot: 5}, false},
		{tr, impl.Vote{Who: 0, Slot: 5}, true},
		{tr, impl.Vote{Who: 2, Slot: 5}, true},
		{tr, impl.Vote{Who: 3, Slot: 5}, false},
		{tr, impl.Vote{Slot: -1}, false},
		{tr, impl.Vote{Slot: 0}, false},
		{tr, impl.Vote{Slot: 1}, true},
		{tr, impl.Vote{Slot: impl.MaxSlot}, true},
		{tr, impl.Vote{Slot: impl.MaxSlot + 1}, false},
		{tr, impl.Vote{Slot: 5, Block: -1}, false},
		{tr, impl.Vote{Slot: 5, Block: 0}, true},
		{tr, impl.Vote{Slot: 5, Block: 4}, true},
		{tr, impl.Vote{Slot: 5, Block: 5}, false},
		{tr, impl.Vote{Slot: 0, Block: 1}, false},
		{tr, impl.Vote{Slot: 1, Block: 1}, true},
		{tr, impl.Vote{Slot: 1, Block: 2}, false},
		{tr, impl.Vote{Slot: 2, Block: 2}, true},
		{tr, impl.Vote{Slot: 3, Block: 4}, false},
		{tr, impl.Vote{Slot: 4, Block: 4}, true},
		{tr, impl.Vote{Slot: impl.MaxSlot, Block: 4}, true},
		{tr, impl.Vote{Slot: impl.MaxSlot + 1, Block: 4}, false},
		{far, impl.Vote{Slot: impl.MaxSlot - 1, Block: 2}, false},
		{far, impl.Vote{Slot: impl.MaxSlot, Block: 2}, true},
		{far, impl.Vote{Slot: impl.MaxSlot + 1, Block: 2}, false},
		{far, impl.Vote{Slot: impl.MaxSlot - 2, Block: 1}, false},
		{far, impl.Vote{Slot: impl.MaxSlot - 1, Block: 1}, true},
		{far, impl.Vote{Slot: impl.MaxSlot - 2, Block: 0}, true},
	}
	for _, c := range cases {
		checkVote(t, c.tree, s, c.vote, c.want)
	}
}

func TestVoteBoundsOfEveryTree(t *testing.T) {
	for _, tree := range someTrees() {
		for _, voters := range []int{1, 2, impl.MaxVoters} {
			stakes := repeated(impl.MaxStake, voters)
			last := len(tree) - 1
			for b, block := range tree {
				checkVote(t, tree, stakes, impl.Vote{Who: 0, Slot: max(block.Slot, 1), Block: b}, true)
				checkVote(t, tree, stakes, impl.Vote{Who: 0, Slot: block.Slot - 1, Block: b}, false)
			}
			checkVote(t, tree, stakes, impl.Vote{Who: voters - 1, Slot: impl.MaxSlot, Block: last}, true)
			checkVote(t, tree, stakes, impl.Vote{Who: voters, Slot: impl.MaxSlot, Block: last}, false)
			checkVote(t, tree, stakes, impl.Vote{Who: voters - 1, Slot: impl.MaxSlot, Block: last + 1}, false)
		}
	}
}

// badVotes are no valid votes for the example's tree and three voters.
func badVotes() []impl.Vote {
	bad := votesBy([][3]int{{0, 0, 0}, {0, 1, 2}, {1, 3, 4}, {2, impl.MaxSlot + 1, 0}})
	for _, n := range []int{-1, -2, 5, 6, impl.MaxBlocks, math.MaxInt, math.MinInt} {
		bad = append(bad, impl.Vote{Who: 1, Slot: 9, Block: n}, impl.Vote{Who: n, Slot: 9, Block: 1}, impl.Vote{Who: n, Slot: n, Block: n})
	}
	for _, n := range []int{0, -1, -impl.MaxSlot, impl.MaxSlot + 1, math.MaxInt, math.MinInt} {
		bad = append(bad, impl.Vote{Who: 1, Slot: n, Block: 0}, impl.Vote{Who: 1, Slot: n, Block: 4})
	}
	return append(bad, impl.Vote{Who: 3, Slot: 9, Block: 1}, impl.Vote{Who: impl.MaxVoters, Slot: 9, Block: 1})
}

// badPool is a list of votes that is no pool, with the reason.
type badPool struct {
	why   string
	votes []impl.Vote
}

// badPools are no pools for the example's tree and three voters.
func badPools() []badPool {
	full := plainPool(differentVotes(exampleTree(), 3, impl.MaxVotes+1))
	last := full[impl.MaxVotes-1]
	bad := []badPool{
		{"Who out of order", votesBy([][3]int{{1, 5, 1}, {0, 5, 1}})},
		{"Who out of order with Slot in order", votesBy([][3]int{{1, 5, 1}, {0, 6, 2}})},
		{"Who out of order at the end", votesBy([][3]int{{0, 5, 1}, {2, 5, 1}, {1, 5, 1}})},
		{"Slot out of order", votesBy([][3]int{{1, 6, 1}, {1, 5, 1}})},
		{"Slot out of order with Block in order", votesBy([][3]int{{1, 6, 1}, {1, 5, 2}})},
		{"Slot out of order behind other voters", votesBy([][3]int{{0, 9, 1}, {1, 8, 1}, {1, 5, 1}})},
		{"Block out of order", votesBy([][3]int{{1, 5, 2}, {1, 5, 1}})},
		{"Block out of order at the end", votesBy([][3]int{{0, 5, 1}, {1, 5, 2}, {1, 5, 4}, {1, 5, 3}})},
		{"a vote twice", votesBy([][3]int{{1, 5, 2}, {1, 5, 2}})},
		{"a vote twice at the end", votesBy([][3]int{{0, 5, 2}, {1, 5, 2}, {1, 5, 2}})},
		{"a vote twice, apart", votesBy([][3]int{{1, 5, 2}, {1, 6, 2}, {1, 5, 2}})},
		{"the first vote again at the end of all", append(slices.Clone(full[:impl.MaxVotes-1]), full[0])},
		{"the last vote twice", append(slices.Clone(full[:impl.MaxVotes-1]), full[impl.MaxVotes-2])},
		{"the order of arrival", exampleVotes()},
		{"too many votes", full},
		{"too many votes, one of them twice", append(slices.Clone(full[:impl.MaxVotes]), last)},
		{"far too many votes", slices.Repeat(full, 5)},
	}
	for _, v := range badVotes() {
		bad = append(bad, badPool{"a vote that is not valid", []impl.Vote{v}})
		bad = append(bad, badPool{"a vote that is not valid among others", plainPool(append(votesBy([][3]int{{0, 8, 1}, {1, 8, 1}, {2, 8, 1}}), v))})
	}
	return bad
}

func TestGoodPoolOfPools(t *testing.T) {
	for _, c := range append(somePools(), smallPools()...) {
		if p := (impl.Pool{Votes: plainPool(c.votes)}); !impl.GoodPool(c.tree, c.stakes, p) {
			t.Errorf("GoodPool(%v, %v, %v) is false", c.tree, c.stakes, p)
		}
	}
	tr, s := exampleTree(), []int{1, 1, 1}
	for _, triples := range [][][3]int{nil, {}, {{1, 5, 2}, {1, 5, 3}}, {{1, 5, 4}, {1, 6, 0}}, {{1, 9, 4}, {2, 1, 0}}} {
		if !impl.GoodPool(tr, s, impl.Pool{Votes: votesBy(triples)}) {
			t.Errorf("GoodPool(%v) is false", triples)
		}
	}
}

func TestGoodPoolOfBadPools(t *testing.T) {
	for _, bad := range badPools() {
		if impl.GoodPool(exampleTree(), []int{1, 1, 1}, impl.Pool{Votes: bad.votes}) {
			t.Errorf("GoodPool(%v) is true, but it has %s", bad.votes, bad.why)
		}
	}
}

// TestGoodPoolOfSwappedVotes: of all orders of a pool, only its own is valid.
func TestGoodPoolOfSwappedVotes(t *testing.T) {
	for _, c := range somePools() {
		p := poolOf(t, c)
		for k := range p.Votes {
			for i := range k {
				votes := slices.Clone(p.Votes)
				votes[i], votes[k] = votes[k], votes[i]
				if impl.GoodPool(c.tree, c.stakes, impl.Pool{Votes: votes}) {
					t.Fatalf("GoodPool(%v) is true", votes)
				}
				votes[i] = votes[k]
				if impl.GoodPool(c.tree, c.stakes, impl.Pool{Votes: votes}) {
					t.Fatalf("GoodPool(%v) is true", votes)
				}
			}
		}
	}
}

// checkReadingRefused expects the zero result of the functions that read a pool.
func checkReadingRefused(t *testing.T, tree []impl.Block, stakes []int, p impl.Pool) {
	t.Helper()
	if impl.GoodPool(tree, stakes, p) {
		t.Errorf("GoodPool(%v, %v, %v) is true", tree, stakes, p)
	}
	if l, ok := impl.LiarsIn(tree, stakes, p); len(l) != 0 || ok {
		t.Errorf("LiarsIn(%v, %v, %v) = %v, %v", tree, stakes, p, l, ok)
	}
	if l, ok := impl.LatestIn(tree, stakes, p); len(l) != 0 || ok {
		t.Errorf("LatestIn(%v, %v, %v) = %v, %v", tree, stakes, p, l, ok)
	}
	if l, ok := impl.WeightsIn(tree, stakes, p); len(l) != 0 || ok {
		t.Errorf("WeightsIn(%v, %v, %v) = %v, %v", tree, stakes, p, l, ok)
	}
	for _, b := range someArguments() {
		checkVotersForRefused(t, tree, stakes, p, b)
	}
}

func checkVotersForRefused(t *testing.T, tree []impl.Block, stakes []int, p impl.Pool, b int) {
	t.Helper()
	if l, ok := impl.VotersFor(tree, stakes, p, b); len(l) != 0 || ok {
		t.Errorf("VotersFor(%v, %v, %v, %d) = %v, %v", tree, stakes, p, b, l, ok)
	}
}

// checkPoolRefused expects the zero result of every function of a pool.
func checkPoolRefused(t *testing.T, tree []impl.Block, stakes []int, p impl.Pool) {
	t.Helper()
	checkReadingRefused(t, tree, stakes, p)
	for _, v := range []impl.Vote{{Who: 0, Slot: impl.MaxSlot, Block: 0}, {Who: 1, Slot: 5, Block: 2}, {Who: -1}} {
		checkPutRefused(t, tree, stakes, p, v)
	}
	for _, other := range []impl.Pool{{}, {Votes: []impl.Vote{{Who: 0, Slot: impl.MaxSlot, Block: 0}}}, p} {
		if m, ok := impl.MergePools(tree, stakes, p, other); len(m.Votes) != 0 || ok {
			t.Errorf("MergePools(%v, %v, %v, %v) = %v, %v", tree, stakes, p, other, m, ok)
		}
		if m, ok := impl.MergePools(tree, stakes, other, p); len(m.Votes) != 0 || ok {
			t.Errorf("MergePools(%v, %v, %v, %v) = %v, %v", tree, stakes, other, p, m, ok)
		}
	}
}

func checkPutRefused(t *testing.T, tree []impl.Block, stakes []int, p impl.Pool, v impl.Vote) {
	t.Helper()
	if q, code, ok := impl.PutVote(tree, stakes, p, v); len(q.Votes) != 0 || code != 0 || ok {
		t.Errorf("PutVote(%v, %v, %v, %v) = %v, %d, %v", tree, stakes, p, v, q, code, ok)
	}
}

func checkPoolOfRefused(t *testing.T, tree []impl.Block, stakes []int, votes []impl.Vote) {
	t.Helper()
	if p, ok := impl.PoolOf(tree, stakes, votes); len(p.Votes) != 0 || ok {
		t.Errorf("PoolOf(%v, %v, %v) = %v, %v", tree, stakes, votes, p, ok)
	}
}

func TestPromise19VotesOfInvalidTrees(t *testing.T) {
	for _, bad := range badTrees() {
		for _, votes := range [][]impl.Vote{nil, {{Who: 0, Slot: impl.MaxSlot, Block: 0}}, plainPool(exampleVotes())} {
			checkPoolOfRefused(t, bad.tree, []int{1, 1, 1}, votes)
			checkPoolRefused(t, bad.tree, []int{1, 1, 1}, impl.Pool{Votes: votes})
		}
	}
}

func TestPromise19VotesOfInvalidStakes(t *testing.T) {
	for _, stakes := range badStakes() {
		for _, votes := range [][]impl.Vote{nil, {{Who: 0, Slot: 5, Block: 0}}, plainPool(exampleVotes())} {
			checkPoolOfRefused(t, exampleTree(), stakes, votes)
			checkPoolRefused(t, exampleTree(), stakes, impl.Pool{Votes: votes})
		}
	}
}

func TestPromise19InvalidPools(t *testing.T) {
	for _, bad := range badPools() {
		checkPoolRefused(t, exampleTree(), []int{1, 1, 1}, impl.Pool{Votes: bad.votes})
	}
}

// TestPromise19InvalidVotes has each of them alone and at the front, within and at the end of a list, and beside a full pool.
func TestPromise19InvalidVotes(t *testing.T) {
	tr, s := exampleTree(), []int{1, 1, 1}
	full := differentVotes(tr, 3, impl.MaxVotes)
	for _, v := range badVotes() {
		checkVote(t, tr, s, v, false)
		for at := range 5 {
			checkPoolOfRefused(t, tr, s, slices.Insert(exampleVotes(), at, v))
		}
		checkPoolOfRefused(t, tr, s, append(slices.Clone(full), v))
		for _, votes := range [][]impl.Vote{nil, exampleVotes(), full} {
			checkPutRefused(t, tr, s, poolOf(t, poolCase{tr, s, votes}), v)
		}
	}
}

func TestPromise19InvalidBlocksOfVoters(t *testing.T) {
	for _, c := range somePools() {
		p := poolOf(t, c)
		for _, b := range badBlocks(c.tree) {
			if b < 0 || b >= len(c.tree) {
				checkVotersForRefused(t, c.tree, c.stakes, p, b)
				checkVotersForRefused(t, c.tree, c.stakes, impl.Pool{}, b)
			}
		}
	}
}

// TestPromise19PoolsOfOthers: a pool is valid for its own tree and stakes, not for fewer blocks or voters.
func TestPromise19PoolsOfOthers(t *testing.T) {
	tr, s := exampleTree(), []int{1, 1, 1}
	p := poolOf(t, poolCase{tr, s, exampleVotes()})
	checkPoolRefused(t, tr[:4], s, p)
	checkPoolRefused(t, tr, s[:2], p)
	checkPoolRefused(t, withBlock(tr, 4, 3, 6), s, p)
	if !impl.GoodPool(withBlock(tr, 4, 3, 5), append(s, 1), p) {
		t.Error("GoodPool with another voter is false")
	}
}

// TestPromise19NoVotes: a nil pool and an empty one are the same value.
func TestPromise19NoVotes(t *testing.T) {
	tr, s := exampleTree(), []int{1, 1, 1}
	v := impl.Vote{Who: 1, Slot: 5, Block: 2}
	for _, empty := range [][]impl.Vote{nil, {}, roomyWith(nil, v)} {
		c := poolCase{tr, s, empty}
		checkPool(t, c, poolOf(t, c))
		checkPool(t, c, impl.Pool{Votes: empty})
		if m, ok := impl.MergePools(tr, s, impl.Pool{Votes: empty}, impl.Pool{}); len(m.Votes) != 0 || !ok {
			t.Error("MergePools", m, ok)
		}
		if p, code, ok := impl.PutVote(tr, s, impl.Pool{Votes: empty}, v); !slices.Equal(p.Votes, []impl.Vote{v}) || code != 0 || !ok {
			t.Error("PutVote", p, code, ok)
		}
	}
}

// spareVote would be a valid vote, and another one than any of the tests' pools have.
var spareVote = impl.Vote{Who: 0, Slot: 3999, Block: 0}

func TestPromise19VotesBehindTheLength(t *testing.T) {
	for _, c := range somePools() {
		p := poolOf(t, c)
		roomyCase := poolCase{roomyWith(c.tree, spareBlock(c.tree)), roomy(c.stakes), roomyWith(c.votes, spareVote)}
		q := poolOf(t, roomyCase)
		if !slices.Equal(p.Votes, q.Votes) {
			t.Fatalf("PoolOf %v = %v, want %v", c.votes, q, p)
		}
		roomyPool := impl.Pool{Votes: roomyWith(p.Votes, spareVote)}
		checkPool(t, roomyCase, roomyPool)
		if m, ok := impl.MergePools(roomyCase.tree, roomyCase.stakes, roomyPool, roomyPool); !slices.Equal(m.Votes, p.Votes) || !ok {
			t.Fatalf("MergePools of %v with itself = %v, %v", p, m, ok)
		}
		want := min(len(p.Votes)/impl.MaxVotes*2, 2)
		if _, code, ok := impl.PutVote(roomyCase.tree, roomyCase.stakes, roomyPool, spareVote); code != want || !ok {
			t.Fatalf("PutVote of a vote behind the length of %v = %d, %v, want %d", p, code, ok, want)
		}
		// The spare stake and the spare block belong to no voter and are no block of the tree.
		checkVote(t, roomyCase.tree, roomyCase.stakes, impl.Vote{Who: len(c.stakes), Slot: impl.MaxSlot}, false)
		checkVote(t, roomyCase.tree, roomyCase.stakes, impl.Vote{Slot: impl.MaxSlot, Block: len(c.tree)}, false)
		checkVotersForRefused(t, roomyCase.tree, roomyCase.stakes, roomyPool, len(c.tree))
	}
}

// keptPoolCases are valid and not valid in every argument.
func keptPoolCases() []poolCase {
	tr, s := exampleTree(), []int{1, 1, 1}
	cases := somePools()
	for _, bad := range badTrees() {
		cases = append(cases, poolCase{bad.tree, s, exampleVotes()})
	}
	for _, stakes := range badStakes() {
		cases = append(cases, poolCase{tr, stakes, exampleVotes()})
	}
	for _, bad := range badPools() {
		cases = append(cases, poolCase{tr, s, bad.votes})
	}
	return cases
}

func TestPromise19PoolsAreKept(t *testing.T) {
	for _, c := range keptPoolCases() {
		spare := spareBlock(c.tree)
		tree, stakes, votes := roomyWith(c.tree, spare), roomy(c.stakes), roomyWith(c.votes, spareVote)
		sorted := plainPool(c.votes)
		pool := impl.Pool{Votes: roomyWith(sorted, spareVote)}
		kept := func(name string) {
			t.Helper()
			checkKeptWith(t, name, tree, c.tree, spare)
			checkKept(t, name, stakes, c.stakes)
			checkKeptWith(t, name, votes, c.votes, spareVote)
			checkKeptWith(t, name, pool.Votes, sorted, spareVote)
		}
		impl.PoolOf(tree, stakes, votes)
		kept("PoolOf")
		for _, p := range []impl.Pool{pool, {Votes: votes}} {
			for _, v := range append(exampleVotes(), impl.Vote{Who: -1}, spareVote) {
				impl.PutVote(tree, stakes, p, v)
				kept("PutVote")
			}
			impl.GoodPool(tree, stakes, p)
			kept("GoodPool")
			impl.MergePools(tree, stakes, p, pool)
			impl.MergePools(tree, stakes, p, impl.Pool{Votes: votes})
			impl.MergePools(tree, stakes, pool, p)
			impl.MergePools(tree, stakes, p, impl.Pool{})
			kept("MergePools")
			impl.LiarsIn(tree, stakes, p)
			kept("LiarsIn")
			impl.LatestIn(tree, stakes, p)
			kept("LatestIn")
			impl.WeightsIn(tree, stakes, p)
			kept("WeightsIn")
			for _, b := range someArguments() {
				impl.VotersFor(tree, stakes, p, b)
				kept("VotersFor")
			}
		}
	}
}

// overwriteVotes changes every vote of a list up to its capacity.
func overwriteVotes(l []impl.Vote) {
	l = l[:cap(l)]
	for i := range l {
		l[i] = impl.Vote{Who: -behind}
	}
}

// checkVotesAreNew overwrites a result and the votes of the arguments in turn, and expects the others to stay what they were.
func checkVotesAreNew(t *testing.T, name string, given []impl.Vote, call func(given []impl.Vote) []impl.Vote) {
	t.Helper()
	argument := roomyWith(given, spareVote)
	want := slices.Clone(call(slices.Clone(given)))
	first, second := call(argument), call(argument)
	overwriteVotes(first)
	checkKeptWith(t, "overwriting the result of "+name, argument, given, spareVote)
	third := call(argument)
	overwriteVotes(argument)
	if !slices.Equal(second, want) || !slices.Equal(third, want) {
		t.Fatalf("%s of %v = %v, then %v, want %v", name, given, second, third, want)
	}
}

func TestPromise19PoolsAreNew(t *testing.T) {
	for _, c := range somePools() {
		sorted := plainPool(c.votes)
		checkVotesAreNew(t, "PoolOf", c.votes, func(given []impl.Vote) []impl.Vote {
			p, _ := impl.PoolOf(c.tree, c.stakes, given)
			return p.Votes
		})
		checkVotesAreNew(t, "LatestIn", sorted, func(given []impl.Vote) []impl.Vote {
			l, _ := impl.LatestIn(c.tree, c.stakes, impl.Pool{Votes: given})
			return l
		})
		// The codes 0, 1 and 2: the vote is put, is there already, or finds the pool full.
		for _, v := range append(slices.Clone(sorted), spareVote) {
			checkVotesAreNew(t, "PutVote", sorted, func(given []impl.Vote) []impl.Vote {
				p, _, _ := impl.PutVote(c.tree, c.stakes, impl.Pool{Votes: given}, v)
				return p.Votes
			})
		}
		for _, other := range [][]impl.Vote{nil, sorted, sorted[:len(sorted)/2]} {
			checkVotesAreNew(t, "MergePools", sorted, func(given []impl.Vote) []impl.Vote {
				p, _ := impl.MergePools(c.tree, c.stakes, impl.Pool{Votes: given}, impl.Pool{Votes: other})
				return p.Votes
			})
			checkVotesAreNew(t, "MergePools", sorted, func(given []impl.Vote) []impl.Vote {
				p, _ := impl.MergePools(c.tree, c.stakes, impl.Pool{Votes: other}, impl.Pool{Votes: given})
				return p.Votes
			})
		}
	}
}

func TestPromise19VoterListsAreNew(t *testing.T) {
	for _, c := range somePools() {
		p := poolOf(t, c)
		stakes, tree := roomy(c.stakes), slices.Clone(c.tree)
		checkListIsNew(t, "LiarsIn", plainLiars(c.votes), func() []int {
			l, _ := impl.LiarsIn(tree, stakes, p)
			return l
		})
		checkListIsNew(t, "WeightsIn", plainWeights(tree, c.stakes, c.votes), func() []int {
			l, _ := impl.WeightsIn(tree, stakes, p)
			return l
		})
		for b := range tree {
			checkListIsNew(t, "VotersFor", plainVotersFor(tree, c.votes, b), func() []int {
				l, _ := impl.VotersFor(tree, stakes, p, b)
				return l
			})
		}
		checkKept(t, "overwriting a list of voters", stakes, c.stakes)
		weights, _ := impl.WeightsIn(tree, stakes, p)
		overwrite(stakes)
		if !sameList(weights, plainWeights(c.tree, c.stakes, c.votes)) || !slices.Equal(tree, c.tree) {
			t.Fatalf("WeightsIn %v shares memory with its arguments", p)
		}
	}
}
