package tests

import (
	"math"
	"slices"
	"sync"
	"testing"

	"loop.example/g00564/impl"
)

// The tests below step through the slots of a period one by one, from the document's words.

// mostKept is the greatest expiration period.
const mostKept = 100

func votesWhere(votes []impl.Vote, is func(v impl.Vote) bool) []impl.Vote {
	var kept []impl.Vote
	for _, v := range plainPool(votes) {
		if is(v) {
			kept = append(kept, v)
		}
	}
	return kept
}

func plainActive(votes []impl.Vote, now int, keep int) []impl.Vote {
	return votesWhere(votes, func(v impl.Vote) bool {
		for slot := now - keep; slot < now; slot++ {
			if v.Slot == slot {
				return true
			}
		}
		return false
	})
}

// plainTrimmed drops the votes of each slot ahead of the period.
func plainTrimmed(votes []impl.Vote, now int, keep int) []impl.Vote {
	return votesWhere(votes, func(v impl.Vote) bool {
		for slot := 0; slot < now-keep; slot++ {
			if v.Slot == slot {
				return false
			}
		}
		return true
	})
}

func plainPast(votes []impl.Vote, now int) []impl.Vote {
	return votesWhere(votes, func(v impl.Vote) bool {
		for slot := 0; slot < now; slot++ {
			if v.Slot == slot {
				return true
			}
		}
		return false
	})
}

func isVoter(votes []impl.Vote, who int) bool {
	return slices.ContainsFunc(votes, func(v impl.Vote) bool { return v.Who == who })
}

func plainAsleep(votes []impl.Vote, now int, keep int) []int {
	active := plainActive(votes, now, keep)
	var asleep []int
	for who := range impl.MaxVoters {
		if isVoter(votes, who) && !isVoter(active, who) {
			asleep = append(asleep, who)
		}
	}
	return asleep
}

func plainWeightWithin(stakes []int, votes []impl.Vote, now int, keep int) int {
	weight := 0
	for _, v := range plainLatest(plainActive(votes, now, keep)) {
		weight += stakes[v.Who]
	}
	return weight
}

// spreadPools have votes over a few hundred slots, many of them in one slot, so that voters equivocate at different times.
func spreadPools() []poolCase {
	var cases []poolCase
	for seed, tree := range someTrees() {
		voters := seed%impl.MaxVoters + 1
		many := min(3*voters+seed%5, impl.MaxVotes)
		whos := drawnNumbers(many, voters-1, seed+1)
		blocks := drawnNumbers(many, len(tree)-1, seed+2)
		later := drawnNumbers(many, 5, seed+3)
		// From the slot of the last block on, any block may be voted for.
		first := 1
		for _, block := range tree {
			first = max(first, block.Slot)
		}
		var votes []impl.Vote
		for k := range many {
			votes = append(votes, impl.Vote{Who: whos[k], Slot: first + later[k]*later[k]*9, Block: blocks[k]})
		}
		stakes := drawnNumbers(voters, impl.MaxStake-1, seed+4)
		for who := range stakes {
			stakes[who]++
		}
		cases = append(cases, poolCase{tree, stakes, votes})
	}
	return cases
}

// slotsOf are the slots of the votes, in increasing order, each of them once.
func slotsOf(votes []impl.Vote) []int {
	var slots []int
	for _, v := range votes {
		slots = append(slots, v.Slot)
	}
	slices.Sort(slots)
	return slices.Compact(slots)
}

// momentsOf are the slots at which a vote begins or ceases to count, and those beside them.
func momentsOf(votes []impl.Vote, keep int) []int {
	moments := []int{1, 2, impl.MaxSlot - 1, impl.MaxSlot}
	for _, slot := range slotsOf(votes) {
		for _, now := range []int{slot - 1, slot, slot + 1, slot + keep - 1, slot + keep, slot + keep + 1, slot + keep + 2} {
			if now >= 1 && now <= impl.MaxSlot {
				moments = append(moments, now)
			}
		}
	}
	slices.Sort(moments)
	return slices.Compact(moments)
}

// someMoments are few moments of any pool.
func someMoments() [][2]int {
	return [][2]int{{1, 1}, {1, mostKept}, {5, 1}, {6, 1}, {6, 3}, {10, mostKept}, {150, 7}, {1000, 2}, {impl.MaxSlot, 1}, {impl.MaxSlot, mostKept}}
}

func activeIn(t *testing.T, c poolCase, p impl.Pool, now int, keep int) impl.Pool {
	t.Helper()
	active, ok := impl.ActiveIn(c.tree, c.stakes, p, now, keep)
	if !ok {
		t.Fatalf("ActiveIn(%v, %v, %v, %d, %d) is refused", c.tree, c.stakes, p, now, keep)
	}
	return active
}

// checkCuts expects the pools of ActiveIn, Trim and FinalView to be what the document's words say of the votes.
func checkCuts(t *testing.T, c poolCase, p impl.Pool, now int, keep int) {
	t.Helper()
	if q := activeIn(t, c, p, now, keep); !slices.Equal(q.Votes, plainActive(c.votes, now, keep)) {
		t.Fatalf("ActiveIn(%v, %d, %d) = %v, want %v", p, now, keep, q, plainActive(c.votes, now, keep))
	}
	if q, ok := impl.Trim(c.tree, c.stakes, p, now, keep); !slices.Equal(q.Votes, plainTrimmed(c.votes, now, keep)) || !ok {
		t.Fatalf("Trim(%v, %d, %d) = %v, %v, want %v", p, now, keep, q, ok, plainTrimmed(c.votes, now, keep))
	}
	if q, ok := impl.FinalView(c.tree, c.stakes, p, now); !slices.Equal(q.Votes, plainPast(c.votes, now)) || !ok {
		t.Fatalf("FinalView(%v, %d) = %v, %v, want %v", p, now, q, ok, plainPast(c.votes, now))
	}
}

// checkExpiry expects so of every function of a pool.
func checkExpiry(t *testing.T, c poolCase, p impl.Pool, now int, keep int) {
	t.Helper()
	checkCuts(t, c, p, now, keep)
	if l, ok := impl.AsleepIn(c.tree, c.stakes, p, now, keep); !sameList(l, plainAsleep(c.votes, now, keep)) || !ok {
		t.Fatalf("AsleepIn(%v, %d, %d) = %v, %v, want %v", p, now, keep, l, ok, plainAsleep(c.votes, now, keep))
	}
	want := plainWeightWithin(c.stakes, c.votes, now, keep)
	if weight, ok := impl.WeightWithin(c.tree, c.stakes, p, now, keep); weight != want || !ok {
		t.Fatalf("WeightWithin(%v, %v, %d, %d) = %d, %v, want %d", c.stakes, p, now, keep, weight, ok, want)
	}
	own := plainWeights(c.tree, c.stakes, plainActive(c.votes, now, keep))
	head := plainHead(c.tree, plainSub(c.tree, own), 0)
	if h, ok := impl.HeadWithin(c.tree, c.stakes, p, now, keep); h != head || !ok {
		t.Fatalf("HeadWithin(%v, %v, %v, %d, %d) = %d, %v, want %d", c.tree, c.stakes, p, now, keep, h, ok, head)
	}
}

func TestExpiryExamples(t *testing.T) {
	tr, s := exampleTree(), []int{1, 1, 1}
	p := poolOf(t, poolCase{tr, s, exampleVotes()})
	ofSlot5 := votesBy([][3]int{{0, 5, 4}, {1, 5, 2}, {1, 5, 3}})
	if a, ok := impl.ActiveIn(tr, s, p, 6, 1); !slices.Equal(a.Votes, ofSlot5) || !ok {
		t.Error("ActiveIn", a, ok)
	}
	if head, ok := impl.HeadWithin(tr, s, p, 6, 1); head != 4 || !ok {
		t.Error("HeadWithin", head, ok)
	}
	if weight, ok := impl.WeightWithin(tr, s, p, 6, 1); weight != 1 || !ok {
		t.Error("WeightWithin", weight, ok)
	}
	if l, ok := impl.AsleepIn(tr, s, p, 6, 1); !sameList(l, []int{2}) || !ok {
		t.Error("AsleepIn", l, ok)
	}
	if n, ok := impl.RunsOutAt(impl.Vote{Slot: 5}, 2); n != 8 || !ok {
		t.Error("RunsOutAt", n, ok)
	}
	if b, ok := impl.Trim(tr, s, p, 6, 1); !slices.Equal(b.Votes, ofSlot5) || !ok {
		t.Error("Trim", b, ok)
	}
	if f, ok := impl.FinalView(tr, s, p, 5); !slices.Equal(f.Votes, votesBy([][3]int{{2, 4, 1}})) || !ok {
		t.Error("FinalView", f, ok)
	}
}

func TestExpiryOfEveryPool(t *testing.T) {
	for _, c := range slices.Concat(somePools(), spreadPools()) {
		p := poolOf(t, c)
		for _, keep := range []int{1, 2, 30, mostKept} {
			moments := momentsOf(c.votes, keep)
			// Of very many moments, every few of them are enough.
			for k := 0; k < len(moments); k += 1 + len(moments)/50 {
				checkExpiry(t, c, p, moments[k], keep)
			}
		}
	}
}

func TestExpiryOfSmallPools(t *testing.T) {
	for _, c := range smallPools() {
		p := poolOf(t, c)
		for _, keep := range []int{1, 2, 3, mostKept} {
			for _, now := range []int{1, 7, 8, 9, 10, 11, 12, 13, 108, 109, 110} {
				checkExpiry(t, c, p, now, keep)
			}
		}
	}
}

// TestPromise8OneVote uses the package alone: of all slots, the vote counts from the one after its own up to the one before RunsOutAt.
func TestPromise8OneVote(t *testing.T) {
	tr, s := exampleTree(), []int{1, 1, 1}
	for _, slot := range []int{4, 5, 50, mostKept, mostKept + 1, 2000, impl.MaxSlot - mostKept, impl.MaxSlot - 1, impl.MaxSlot} {
		v := impl.Vote{Who: 1, Slot: slot, Block: 4}
		p := impl.Pool{Votes: []impl.Vote{v}}
		for _, keep := range []int{1, 2, 17, mostKept - 1, mostKept} {
			end, okEnd := impl.RunsOutAt(v, keep)
			counted := 0
			for now := 1; now <= impl.MaxSlot; now++ {
				active, ok := impl.ActiveIn(tr, s, p, now, keep)
				is := slices.Contains(active.Votes, v)
				if !ok || !okEnd || is != (now > slot && now < end) || is != (now-keep <= slot && slot < now) {
					t.Fatalf("ActiveIn(%v, %d, %d) = %v, %v, RunsOutAt %d, %v", p, now, keep, active, ok, end, okEnd)
				}
				if is {
					counted++
				}
			}
			if want := min(keep, impl.MaxSlot-slot); counted != want {
				t.Errorf("the vote of slot %d counts in %d slots with keep %d, want %d", slot, counted, keep, want)
			}
		}
	}
}

// TestPromise8EveryVote uses the package alone: among others, too, each vote counts in exactly the slots of its period.
func TestPromise8EveryVote(t *testing.T) {
	for _, c := range slices.Concat(somePools(), spreadPools()) {
		p := poolOf(t, c)
		for _, keep := range []int{1, 3, mostKept} {
			for _, now := range momentsOf(p.Votes, keep) {
				active := activeIn(t, c, p, now, keep)
				many := 0
				for _, v := range p.Votes {
					end, ok := impl.RunsOutAt(v, keep)
					is := v.Slot+1 <= now && now <= end-1
					if !ok || slices.Contains(active.Votes, v) != is {
						t.Fatalf("ActiveIn(%v, %d, %d) = %v, but the vote %v runs out at %d, %v", p, now, keep, active, v, end, ok)
					}
					if is {
						many++
					}
				}
				if len(active.Votes) != many || !impl.GoodPool(c.tree, c.stakes, active) {
					t.Fatalf("ActiveIn(%v, %d, %d) = %v, want a pool of %d votes", p, now, keep, active, many)
				}
			}
		}
	}
}

// TestPromise8AsleepVoters uses the package alone: an asleep voter has a vote in the pool and none that counts, and every such voter is asleep.
func TestPromise8AsleepVoters(t *testing.T) {
	asleepOnes, awakeOnes := 0, 0
	for _, c := range slices.Concat(somePools(), spreadPools(), smallPools()) {
		p := poolOf(t, c)
		for _, keep := range []int{1, 9, mostKept} {
			for _, now := range momentsOf(p.Votes, keep) {
				active := activeIn(t, c, p, now, keep)
				asleep, ok := impl.AsleepIn(c.tree, c.stakes, p, now, keep)
				if !ok || !slices.IsSorted(asleep) || len(slices.Compact(slices.Clone(asleep))) != len(asleep) {
					t.Fatalf("AsleepIn(%v, %d, %d) = %v, %v", p, now, keep, asleep, ok)
				}
				for who := range impl.MaxVoters {
					is := slices.Contains(asleep, who)
					if is != (isVoter(p.Votes, who) && !isVoter(active.Votes, who)) {
						t.Fatalf("AsleepIn(%v, %d, %d) = %v, the active votes are %v", p, now, keep, asleep, active)
					}
					if is {
						asleepOnes++
					} else if isVoter(active.Votes, who) {
						awakeOnes++
					}
				}
			}
		}
	}
	if asleepOnes < 1000 || awakeOnes < 1000 {
		t.Errorf("only %d asleep and %d awake", asleepOnes, awakeOnes)
	}
}

// TestPromise8AsleepVotersDoNotCount: without all votes of the asleep voters, the head and the weight are the same.
func TestPromise8AsleepVotersDoNotCount(t *testing.T) {
	for _, c := range slices.Concat(somePools(), spreadPools()) {
		p := poolOf(t, c)
		for _, keep := range []int{1, 20} {
			for _, now := range momentsOf(p.Votes, keep) {
				asleep, _ := impl.AsleepIn(c.tree, c.stakes, p, now, keep)
				awake := impl.Pool{Votes: votesWhere(p.Votes, func(v impl.Vote) bool { return !slices.Contains(asleep, v.Who) })}
				head, ok := impl.HeadWithin(c.tree, c.stakes, p, now, keep)
				weight, okWeight := impl.WeightWithin(c.tree, c.stakes, p, now, keep)
				headAwake, okAwake := impl.HeadWithin(c.tree, c.stakes, awake, now, keep)
				weightAwake, okWeightAwake := impl.WeightWithin(c.tree, c.stakes, awake, now, keep)
				if head != headAwake || weight != weightAwake || !ok || !okWeight || !okAwake || !okWeightAwake {
					t.Fatalf("at %d with keep %d, %v has head %d and weight %d, without %v it has %d and %d", now, keep, p, head, weight, asleep, headAwake, weightAwake)
				}
				if still, ok := impl.AsleepIn(c.tree, c.stakes, awake, now, keep); len(still) != 0 || !ok {
					t.Fatalf("AsleepIn(%v, %d, %d) = %v, %v", awake, now, keep, still, ok)
				}
			}
		}
	}
}

// TestVotesAtTheEndsOfAPeriod has the votes of five voters in the slots now - keep - 1, now - keep, now - 1, now and now + 1.
func TestVotesAtTheEndsOfAPeriod(t *testing.T) {
	tree, s := pathTree(1), repeated(1, 5)
	for _, moment := range [][2]int{{3, 1}, {4, 2}, {10, 3}, {50, 48}, {102, mostKept}, {103, mostKept}, {102, 1}, {2000, 30}, {impl.MaxSlot - 1, 1}, {impl.MaxSlot - 1, mostKept}} {
		now, keep := moment[0], moment[1]
		slots := []int{now - keep - 1, now - keep, now - 1, now, now + 1}
		var votes []impl.Vote
		for who, slot := range slots {
			votes = append(votes, impl.Vote{Who: who, Slot: slot})
		}
		p := impl.Pool{Votes: votes}
		if q, ok := impl.ActiveIn(tree, s, p, now, keep); !slices.Equal(q.Votes, votes[1:3]) || !ok {
			t.Errorf("ActiveIn(%v, %d, %d) = %v, %v", p, now, keep, q, ok)
		}
		if q, ok := impl.Trim(tree, s, p, now, keep); !slices.Equal(q.Votes, votes[1:]) || !ok {
			t.Errorf("Trim(%v, %d, %d) = %v, %v", p, now, keep, q, ok)
		}
		if q, ok := impl.FinalView(tree, s, p, now); !slices.Equal(q.Votes, votes[:3]) || !ok {
			t.Errorf("FinalView(%v, %d) = %v, %v", p, now, q, ok)
		}
		if l, ok := impl.AsleepIn(tree, s, p, now, keep); !sameList(l, []int{0, 3, 4}) || !ok {
			t.Errorf("AsleepIn(%v, %d, %d) = %v, %v", p, now, keep, l, ok)
		}
		if weight, ok := impl.WeightWithin(tree, s, p, now, keep); weight != 2 || !ok {
			t.Errorf("WeightWithin(%v, %d, %d) = %d, %v", p, now, keep, weight, ok)
		}
	}
}

// TestVotesOfOneVoterAtTheEnds: the latest vote of the period counts, not a later one nor an earlier one.
func TestVotesOfOneVoterAtTheEnds(t *testing.T) {
	star := starTree(6)
	for _, keep := range []int{2, 3, 40, mostKept} {
		now := 500
		slots := []int{now - keep - 1, now - keep, now - 1, now, now + 1}
		var votes []impl.Vote
		for k, slot := range slots {
			votes = append(votes, impl.Vote{Slot: slot, Block: 1 + k})
		}
		cases := []struct{ from, to, head, weight int }{
			{0, 5, 3, 7}, {1, 5, 3, 7}, {0, 2, 2, 7}, {1, 2, 2, 7}, {2, 3, 3, 7}, {0, 1, 5, 0}, {3, 5, 5, 0}, {4, 5, 5, 0}, {3, 4, 5, 0},
		}
		for _, c := range cases {
			p := impl.Pool{Votes: votes[c.from:c.to]}
			if head, ok := impl.HeadWithin(star, []int{7}, p, now, keep); head != c.head || !ok {
				t.Errorf("HeadWithin(%v, %d, %d) = %d, %v, want %d", p, now, keep, head, ok, c.head)
			}
			if weight, ok := impl.WeightWithin(star, []int{7}, p, now, keep); weight != c.weight || !ok {
				t.Errorf("WeightWithin(%v, %d, %d) = %d, %v, want %d", p, now, keep, weight, ok, c.weight)
			}
			asleep, ok := impl.AsleepIn(star, []int{7}, p, now, keep)
			if (len(asleep) == 1) != (c.weight == 0) || !ok {
				t.Errorf("AsleepIn(%v, %d, %d) = %v, %v", p, now, keep, asleep, ok)
			}
		}
	}
}

// TestHeadAndWeightOfActiveVotes uses the package alone, by the words of the chapter.
func TestHeadAndWeightOfActiveVotes(t *testing.T) {
	for _, c := range slices.Concat(somePools(), spreadPools(), smallPools()) {
		p := poolOf(t, c)
		for _, keep := range []int{1, 4, mostKept} {
			for _, now := range momentsOf(p.Votes, keep) {
				active := activeIn(t, c, p, now, keep)
				want, okWant := impl.HeadOf(c.tree, c.stakes, active)
				if head, ok := impl.HeadWithin(c.tree, c.stakes, p, now, keep); head != want || !ok || !okWant {
					t.Fatalf("HeadWithin(%v, %v, %d, %d) = %d, %v, but HeadOf %v is %d", c.tree, p, now, keep, head, ok, active, want)
				}
				latest, okLatest := impl.LatestIn(c.tree, c.stakes, active)
				sum := 0
				for _, v := range latest {
					sum += c.stakes[v.Who]
				}
				if weight, ok := impl.WeightWithin(c.tree, c.stakes, p, now, keep); weight != sum || !ok || !okLatest {
					t.Fatalf("WeightWithin(%v, %v, %d, %d) = %d, %v, but of %v it is %d", c.stakes, p, now, keep, weight, ok, latest, sum)
				}
			}
		}
	}
}

// TestEquivocationsWithinAPeriod has the votes of voter 1, of stake 5, beside one vote of voter 0 for block 1, of stake 2, at now 50 with keep 10.
func TestEquivocationsWithinAPeriod(t *testing.T) {
	tr, s := exampleTree(), []int{2, 5, 1}
	cases := []struct {
		name         string
		votes        [][3]int
		weight, head int
	}{
		{"no vote", nil, 2, 4},
		{"one vote", [][3]int{{1, 45, 2}}, 7, 2},
		{"an equivocation in the period", [][3]int{{1, 45, 2}, {1, 45, 4}}, 2, 4},
		{"an equivocation in the first slot of the period", [][3]int{{1, 40, 2}, {1, 40, 4}, {1, 45, 2}}, 2, 4},
		{"an equivocation in the last slot of the period", [][3]int{{1, 45, 2}, {1, 49, 2}, {1, 49, 4}}, 2, 4},
		{"three votes in one slot", [][3]int{{1, 45, 1}, {1, 45, 2}, {1, 45, 4}}, 2, 4},
		{"an equivocation just ahead of the period", [][3]int{{1, 39, 2}, {1, 39, 4}, {1, 45, 2}}, 7, 2},
		{"an equivocation long ahead of the period", [][3]int{{1, 5, 2}, {1, 5, 4}, {1, 45, 2}}, 7, 2},
		{"an equivocation in the current slot", [][3]int{{1, 45, 2}, {1, 50, 2}, {1, 50, 4}}, 7, 2},
		{"an equivocation in a later slot", [][3]int{{1, 45, 2}, {1, 51, 2}, {1, 51, 4}}, 7, 2},
		{"equivocations ahead of the period and after it", [][3]int{{1, 39, 2}, {1, 39, 4}, {1, 40, 2}, {1, 50, 2}, {1, 50, 4}}, 7, 2},
		{"equivocations within the period and ahead of it", [][3]int{{1, 39, 2}, {1, 39, 4}, {1, 40, 2}, {1, 40, 4}}, 2, 4},
		{"an equivocation outside of the period alone", [][3]int{{1, 39, 2}, {1, 39, 4}}, 2, 4},
		{"two blocks in slots on both sides of the first slot", [][3]int{{1, 39, 4}, {1, 40, 2}}, 7, 2},
		{"two blocks in slots on both sides of the current slot", [][3]int{{1, 49, 2}, {1, 50, 4}}, 7, 2},
	}
	for _, c := range cases {
		votes := append(votesBy(c.votes), impl.Vote{Who: 0, Slot: 44, Block: 1})
		p := poolOf(t, poolCase{tr, s, votes})
		if weight, ok := impl.WeightWithin(tr, s, p, 50, 10); weight != c.weight || !ok {
			t.Errorf("%s: WeightWithin = %d, %v, want %d", c.name, weight, ok, c.weight)
		}
		if head, ok := impl.HeadWithin(tr, s, p, 50, 10); head != c.head || !ok {
			t.Errorf("%s: HeadWithin = %d, %v, want %d", c.name, head, ok, c.head)
		}
		checkExpiry(t, poolCase{tr, s, votes}, p, 50, 10)
	}
}

// TestLiarsAreAwake: a voter that equivocates in the period does not count, but it has an active vote.
func TestLiarsAreAwake(t *testing.T) {
	tr, s := exampleTree(), []int{1, 1, 1}
	p := poolOf(t, poolCase{tr, s, votesBy([][3]int{{0, 20, 1}, {1, 25, 2}, {1, 25, 3}, {2, 19, 2}, {2, 19, 4}})})
	if l, ok := impl.AsleepIn(tr, s, p, 30, 10); !sameList(l, []int{2}) || !ok {
		t.Error("AsleepIn", l, ok)
	}
	if weight, ok := impl.WeightWithin(tr, s, p, 30, 10); weight != 1 || !ok {
		t.Error("WeightWithin", weight, ok)
	}
}

// TestAPeriodOfAllSlots: where the period reaches back to the first vote, all votes of slots before now are active.
func TestAPeriodOfAllSlots(t *testing.T) {
	for _, c := range slices.Concat(somePools(), spreadPools(), smallPools()) {
		p := poolOf(t, c)
		slots := slotsOf(p.Votes)
		if len(slots) == 0 || slots[len(slots)-1]+1-slots[0] > mostKept || slots[len(slots)-1] == impl.MaxSlot {
			continue
		}
		for now := slots[len(slots)-1] + 1; now-mostKept <= slots[0]; now++ {
			if q := activeIn(t, c, p, now, mostKept); !slices.Equal(q.Votes, p.Votes) {
				t.Fatalf("ActiveIn(%v, %d, %d) = %v", p, now, mostKept, q)
			}
			if l, ok := impl.AsleepIn(c.tree, c.stakes, p, now, mostKept); len(l) != 0 || !ok {
				t.Fatalf("AsleepIn(%v, %d, %d) = %v, %v", p, now, mostKept, l, ok)
			}
		}
		for _, now := range slots {
			past, ok := impl.FinalView(c.tree, c.stakes, p, now)
			if q := activeIn(t, c, p, now, mostKept); !slices.Equal(q.Votes, past.Votes) || !slices.Equal(q.Votes, plainPast(c.votes, now)) || !ok {
				t.Fatalf("ActiveIn(%v, %d, %d) = %v, FinalView %v, %v", p, now, mostKept, q, past, ok)
			}
			if q, ok := impl.Trim(c.tree, c.stakes, p, now, mostKept); !slices.Equal(q.Votes, p.Votes) || !ok {
				t.Fatalf("Trim(%v, %d, %d) = %v, %v", p, now, mostKept, q, ok)
			}
		}
	}
}

// TestTrimLosesNothing: what Trim drops counts neither now nor in a later slot.
func TestTrimLosesNothing(t *testing.T) {
	for _, c := range spreadPools() {
		p := poolOf(t, c)
		for _, keep := range []int{1, 25, mostKept} {
			moments := momentsOf(p.Votes, keep)
			for k, now := range moments {
				trimmed, ok := impl.Trim(c.tree, c.stakes, p, now, keep)
				if !ok {
					t.Fatalf("Trim(%v, %d, %d) is refused", p, now, keep)
				}
				for _, later := range moments[k:min(k+4, len(moments))] {
					want := activeIn(t, c, p, later, keep)
					if q := activeIn(t, c, trimmed, later, keep); !slices.Equal(q.Votes, want.Votes) {
						t.Fatalf("ActiveIn(%v, %d, %d) = %v, want %v", trimmed, later, keep, q, want)
					}
				}
			}
		}
	}
}

func TestExpiryOfNoVotes(t *testing.T) {
	for _, tree := range someTrees() {
		want := headFrom(t, ghostCase{tree, repeated(0, len(tree))}, 0)
		for _, stakes := range [][]int{{1}, {1, 2, 3}, repeated(impl.MaxStake, impl.MaxVoters)} {
			for _, votes := range [][]impl.Vote{nil, {}} {
				for _, moment := range someMoments() {
					p := impl.Pool{Votes: votes}
					checkExpiry(t, poolCase{tree, stakes, votes}, p, moment[0], moment[1])
					if head, ok := impl.HeadWithin(tree, stakes, p, moment[0], moment[1]); head != want || !ok {
						t.Fatalf("HeadWithin(%v, no votes) = %d, %v, want %d", tree, head, ok, want)
					}
				}
			}
		}
	}
}

// TestExpiryOfNoActiveVote: with votes in the pool and none in the period, the head is that of no votes.
func TestExpiryOfNoActiveVote(t *testing.T) {
	tr, s := exampleTree(), []int{1, 2, 3}
	p := poolOf(t, poolCase{tr, s, votesBy([][3]int{{0, 20, 1}, {0, 60, 1}, {1, 60, 4}, {2, 20, 3}})})
	for _, now := range []int{1, 20, 31, 60, 71, impl.MaxSlot} {
		if q, ok := impl.ActiveIn(tr, s, p, now, 10); len(q.Votes) != 0 || !ok {
			t.Errorf("ActiveIn %d = %v, %v", now, q, ok)
		}
		if head, ok := impl.HeadWithin(tr, s, p, now, 10); head != 2 || !ok {
			t.Errorf("HeadWithin %d = %d, %v", now, head, ok)
		}
		if weight, ok := impl.WeightWithin(tr, s, p, now, 10); weight != 0 || !ok {
			t.Errorf("WeightWithin %d = %d, %v", now, weight, ok)
		}
		if l, ok := impl.AsleepIn(tr, s, p, now, 10); !sameList(l, []int{0, 1, 2}) || !ok {
			t.Errorf("AsleepIn %d = %v, %v", now, l, ok)
		}
	}
}

// TestAsleepInEveryGroup: each voter may be asleep alone, and all may be together; a voter without any vote is not.
func TestAsleepInEveryGroup(t *testing.T) {
	tree, s := pathTree(1), repeated(2, impl.MaxVoters)
	for _, group := range append(groupsUpTo(6), []int{9}, []int{0, 9}, []int{0, 1, 2, 3, 4, 5, 6, 7, 8, 9}) {
		var votes []impl.Vote
		for who := range s {
			slot := 100
			if slices.Contains(group, who) {
				slot = 50
			}
			votes = append(votes, impl.Vote{Who: who, Slot: slot})
		}
		p := impl.Pool{Votes: votes}
		if l, ok := impl.AsleepIn(tree, s, p, 101, 50); !sameList(l, group) || !ok {
			t.Errorf("AsleepIn = %v, %v, want %v", l, ok, group)
		}
		if weight, ok := impl.WeightWithin(tree, s, p, 101, 50); weight != 2*(len(s)-len(group)) || !ok {
			t.Errorf("WeightWithin = %d, %v without %v", weight, ok, group)
		}
		only := impl.Pool{Votes: votesWhere(votes, func(v impl.Vote) bool { return v.Slot == 50 })}
		if l, ok := impl.AsleepIn(tree, s, only, 101, 50); !sameList(l, group) || !ok {
			t.Errorf("AsleepIn of the asleep alone = %v, %v, want %v", l, ok, group)
		}
	}
}

// extremes are the smallest and the largest numbers, around which sums and differences wrap around.
func extremes() []int {
	return []int{math.MinInt, math.MinInt + 1, math.MinInt + mostKept, math.MaxInt, math.MaxInt - 1, math.MaxInt - mostKept}
}

func badNows() []int {
	return append(extremes(), 0, -1, -impl.MaxSlot, impl.MaxSlot+1, impl.MaxSlot+2, 2*impl.MaxSlot)
}

func badKeeps() []int {
	return append(extremes(), 0, -1, -mostKept, mostKept+1, mostKept+2, impl.MaxSlot)
}

// checkCountingRefused expects the zero result of the functions with a period.
func checkCountingRefused(t *testing.T, tree []impl.Block, stakes []int, p impl.Pool, now int, keep int) {
	t.Helper()
	if q, ok := impl.ActiveIn(tree, stakes, p, now, keep); len(q.Votes) != 0 || ok {
		t.Errorf("ActiveIn(%v, %v, %v, %d, %d) = %v, %v", tree, stakes, p, now, keep, q, ok)
	}
	if head, ok := impl.HeadWithin(tree, stakes, p, now, keep); head != 0 || ok {
		t.Errorf("HeadWithin(%v, %v, %v, %d, %d) = %d, %v", tree, stakes, p, now, keep, head, ok)
	}
	if l, ok := impl.AsleepIn(tree, stakes, p, now, keep); len(l) != 0 || ok {
		t.Errorf("AsleepIn(%v, %v, %v, %d, %d) = %v, %v", tree, stakes, p, now, keep, l, ok)
	}
	if q, ok := impl.Trim(tree, stakes, p, now, keep); len(q.Votes) != 0 || ok {
		t.Errorf("Trim(%v, %v, %v, %d, %d) = %v, %v", tree, stakes, p, now, keep, q, ok)
	}
	if weight, ok := impl.WeightWithin(tree, stakes, p, now, keep); weight != 0 || ok {
		t.Errorf("WeightWithin(%v, %v, %v, %d, %d) = %d, %v", tree, stakes, p, now, keep, weight, ok)
	}
}

func checkFinalViewRefused(t *testing.T, tree []impl.Block, stakes []int, p impl.Pool, now int) {
	t.Helper()
	if q, ok := impl.FinalView(tree, stakes, p, now); len(q.Votes) != 0 || ok {
		t.Errorf("FinalView(%v, %v, %v, %d) = %v, %v", tree, stakes, p, now, q, ok)
	}
}

func checkRunsOutAtRefused(t *testing.T, v impl.Vote, keep int) {
	t.Helper()
	if n, ok := impl.RunsOutAt(v, keep); n != 0 || ok {
		t.Errorf("RunsOutAt(%v, %d) = %d, %v", v, keep, n, ok)
	}
}

// boundaryPool has a vote of each voter in each slot at which the bounds of a period may lie.
func boundaryPool() poolCase {
	c := poolCase{pathTree(1), []int{3, 4}, nil}
	for _, slot := range []int{1, 2, 3, 99, 100, 101, 102, 3899, 3900, 3901, 3998, 3999, impl.MaxSlot} {
		c.votes = append(c.votes, impl.Vote{Who: 0, Slot: slot}, impl.Vote{Who: 1, Slot: slot})
	}
	return c
}

func TestExpiryBounds(t *testing.T) {
	for _, c := range []poolCase{boundaryPool(), {exampleTree(), []int{1, 1, 1}, exampleVotes()}, {exampleTree(), []int{1}, nil}} {
		p := poolOf(t, c)
		nows := []int{1, 2, 3, 50, 99, 100, 101, 102, 103, 3999, impl.MaxSlot}
		keeps := []int{1, 2, 3, 49, 50, 51, 99, mostKept}
		for _, now := range nows {
			for _, keep := range keeps {
				checkExpiry(t, c, p, now, keep)
			}
			for _, keep := range badKeeps() {
				checkCountingRefused(t, c.tree, c.stakes, p, now, keep)
			}
		}
		for _, now := range badNows() {
			checkFinalViewRefused(t, c.tree, c.stakes, p, now)
			for _, keep := range append(keeps, badKeeps()...) {
				checkCountingRefused(t, c.tree, c.stakes, p, now, keep)
			}
		}
	}
}

// TestKeepBeyondTheFirstSlot: where keep is greater than now, the period begins ahead of slot 1 and loses no vote.
func TestKeepBeyondTheFirstSlot(t *testing.T) {
	c := boundaryPool()
	p := poolOf(t, c)
	for _, now := range []int{1, 2, 3, 50, 99} {
		for _, keep := range []int{now, now + 1, mostKept} {
			if q, ok := impl.Trim(c.tree, c.stakes, p, now, keep); !slices.Equal(q.Votes, p.Votes) || !ok {
				t.Errorf("Trim(%d, %d) = %v, %v", now, keep, q, ok)
			}
			past, ok := impl.FinalView(c.tree, c.stakes, p, now)
			if q := activeIn(t, c, p, now, keep); !slices.Equal(q.Votes, past.Votes) || !ok {
				t.Errorf("ActiveIn(%d, %d) = %v, want %v", now, keep, q, past)
			}
		}
	}
	if q := activeIn(t, c, p, 1, mostKept); len(q.Votes) != 0 {
		t.Error("a vote is active in slot 1", q)
	}
}

func TestRunsOutAtOfEverySlot(t *testing.T) {
	for keep := 1; keep <= mostKept; keep++ {
		for slot := 1; slot <= impl.MaxSlot; slot++ {
			if n, ok := impl.RunsOutAt(impl.Vote{Slot: slot}, keep); n != slot+keep+1 || !ok {
				t.Fatalf("RunsOutAt(%d, %d) = %d, %v", slot, keep, n, ok)
			}
		}
	}
}

func TestRunsOutAtBounds(t *testing.T) {
	cases := []struct{ slot, keep, end int }{
		{1, 1, 3}, {1, mostKept, 102}, {2, 1, 4}, {5, 2, 8},
		{impl.MaxSlot - mostKept - 1, mostKept, impl.MaxSlot}, {impl.MaxSlot - mostKept, mostKept, impl.MaxSlot + 1}, {impl.MaxSlot - 2, 1, impl.MaxSlot},
		{impl.MaxSlot - 1, 1, impl.MaxSlot + 1}, {impl.MaxSlot, 1, impl.MaxSlot + 2}, {impl.MaxSlot, mostKept, impl.MaxSlot + 101},
	}
	others := append(extremes(), -1, 0, 1, impl.MaxVoters, impl.MaxBlocks, impl.MaxBlocks+1)
	for _, c := range cases {
		for _, n := range others {
			for _, v := range []impl.Vote{{Who: n, Slot: c.slot}, {Slot: c.slot, Block: n}, {Who: n, Slot: c.slot, Block: n}, {Who: -1, Slot: c.slot, Block: n}} {
				if end, ok := impl.RunsOutAt(v, c.keep); end != c.end || !ok {
					t.Errorf("RunsOutAt(%v, %d) = %d, %v, want %d", v, c.keep, end, ok, c.end)
				}
			}
		}
	}
	for _, slot := range badNows() {
		for _, keep := range append(badKeeps(), 1, mostKept) {
			checkRunsOutAtRefused(t, impl.Vote{Slot: slot}, keep)
			checkRunsOutAtRefused(t, impl.Vote{Who: -1, Slot: slot, Block: -1}, keep)
		}
	}
	for _, keep := range badKeeps() {
		for _, slot := range []int{1, 5, impl.MaxSlot} {
			checkRunsOutAtRefused(t, impl.Vote{Slot: slot}, keep)
			checkRunsOutAtRefused(t, impl.Vote{Who: -1, Slot: slot, Block: -1}, keep)
		}
	}
}

// checkExpiryRefused expects the zero result of every function of a pool, at any moment.
func checkExpiryRefused(t *testing.T, tree []impl.Block, stakes []int, p impl.Pool) {
	t.Helper()
	for _, moment := range append(someMoments(), [2]int{0, 1}, [2]int{6, 0}, [2]int{math.MinInt, math.MaxInt}, [2]int{math.MaxInt, math.MinInt}) {
		checkCountingRefused(t, tree, stakes, p, moment[0], moment[1])
		checkFinalViewRefused(t, tree, stakes, p, moment[0])
	}
}

func TestPromise19ExpiryInvalidTrees(t *testing.T) {
	for _, bad := range badTrees() {
		for _, votes := range [][]impl.Vote{nil, {{Who: 0, Slot: impl.MaxSlot, Block: 0}}, plainPool(exampleVotes())} {
			checkExpiryRefused(t, bad.tree, []int{1, 1, 1}, impl.Pool{Votes: votes})
		}
	}
}

func TestPromise19ExpiryInvalidStakes(t *testing.T) {
	for _, stakes := range badStakes() {
		for _, votes := range [][]impl.Vote{nil, {{Who: 0, Slot: 5, Block: 0}}, plainPool(exampleVotes())} {
			checkExpiryRefused(t, exampleTree(), stakes, impl.Pool{Votes: votes})
		}
	}
}

// TestPromise19ExpiryInvalidPools: a pool is checked as a whole, also where the votes that are not valid are not active.
func TestPromise19ExpiryInvalidPools(t *testing.T) {
	tr, s := exampleTree(), []int{1, 1, 1}
	for _, bad := range badPools() {
		checkExpiryRefused(t, tr, s, impl.Pool{Votes: bad.votes})
	}
	p := poolOf(t, poolCase{tr, s, exampleVotes()})
	checkExpiryRefused(t, tr[:4], s, p)
	checkExpiryRefused(t, tr, s[:2], p)
	checkExpiryRefused(t, nil, nil, impl.Pool{})
}

func TestPromise19ExpiryInvalidMoments(t *testing.T) {
	for _, c := range somePools() {
		p := poolOf(t, c)
		for _, now := range badNows() {
			checkFinalViewRefused(t, c.tree, c.stakes, p, now)
			checkCountingRefused(t, c.tree, c.stakes, p, now, 1)
			checkCountingRefused(t, c.tree, c.stakes, p, now, mostKept)
		}
		for _, keep := range badKeeps() {
			checkCountingRefused(t, c.tree, c.stakes, p, 1, keep)
			checkCountingRefused(t, c.tree, c.stakes, p, 1000, keep)
			checkCountingRefused(t, c.tree, c.stakes, p, impl.MaxSlot, keep)
		}
	}
}

// TestPromise19ExpiryBehindTheLength: what is behind the length of an argument is no block, no stake and no vote.
func TestPromise19ExpiryBehindTheLength(t *testing.T) {
	for _, c := range slices.Concat(somePools(), spreadPools()) {
		p := impl.Pool{Votes: roomyWith(plainPool(c.votes), spareVote)}
		roomyCase := poolCase{roomyWith(c.tree, spareBlock(c.tree)), roomy(c.stakes), c.votes}
		for _, moment := range someMoments() {
			checkExpiry(t, roomyCase, p, moment[0], moment[1])
		}
	}
}

func TestPromise19ExpiryKeepsArguments(t *testing.T) {
	moments := append(someMoments(), [2]int{0, 1}, [2]int{6, 0}, [2]int{math.MinInt, math.MaxInt}, [2]int{math.MaxInt, math.MinInt})
	for _, c := range append(keptPoolCases(), spreadPools()...) {
		for _, was := range [][]impl.Vote{plainPool(c.votes), c.votes} {
			spare := spareBlock(c.tree)
			tree, stakes, votes := roomyWith(c.tree, spare), roomy(c.stakes), roomyWith(was, spareVote)
			p := impl.Pool{Votes: votes}
			kept := func(name string) {
				t.Helper()
				checkKeptWith(t, name, tree, c.tree, spare)
				checkKept(t, name, stakes, c.stakes)
				checkKeptWith(t, name, votes, was, spareVote)
			}
			for _, moment := range moments {
				now, keep := moment[0], moment[1]
				impl.ActiveIn(tree, stakes, p, now, keep)
				kept("ActiveIn")
				impl.HeadWithin(tree, stakes, p, now, keep)
				kept("HeadWithin")
				impl.AsleepIn(tree, stakes, p, now, keep)
				kept("AsleepIn")
				impl.Trim(tree, stakes, p, now, keep)
				kept("Trim")
				impl.WeightWithin(tree, stakes, p, now, keep)
				kept("WeightWithin")
				impl.FinalView(tree, stakes, p, now)
				kept("FinalView")
			}
		}
	}
}

// checkOneCutIsNew expects the three pools of one moment to share no memory with the pool, with a later result or with each other.
func checkOneCutIsNew(t *testing.T, c poolCase, now int, keep int) {
	t.Helper()
	calls := map[string]func(given []impl.Vote) []impl.Vote{
		"ActiveIn": func(given []impl.Vote) []impl.Vote {
			q, _ := impl.ActiveIn(c.tree, c.stakes, impl.Pool{Votes: given}, now, keep)
			return q.Votes
		},
		"Trim": func(given []impl.Vote) []impl.Vote {
			q, _ := impl.Trim(c.tree, c.stakes, impl.Pool{Votes: given}, now, keep)
			return q.Votes
		},
		"FinalView": func(given []impl.Vote) []impl.Vote {
			q, _ := impl.FinalView(c.tree, c.stakes, impl.Pool{Votes: given}, now)
			return q.Votes
		},
	}
	sorted := plainPool(c.votes)
	for name, call := range calls {
		checkVotesAreNew(t, name, sorted, call)
		for other, callOther := range calls {
			want := slices.Clone(call(sorted))
			got := call(sorted)
			overwriteVotes(callOther(sorted))
			if !slices.Equal(got, want) {
				t.Fatalf("the result of %s shares memory with that of %s", name, other)
			}
		}
	}
}

func TestPromise19CutPoolsAreNew(t *testing.T) {
	for _, c := range slices.Concat(somePools(), spreadPools()) {
		slots := slotsOf(c.votes)
		moments := someMoments()
		if len(slots) > 0 {
			last := slots[len(slots)-1]
			// All votes may be active, or the first and the last ones alone.
			moments = append(moments, [2]int{min(last+1, impl.MaxSlot), mostKept}, [2]int{last, mostKept}, [2]int{min(slots[0]+1, impl.MaxSlot), 1}, [2]int{min(last+1, impl.MaxSlot), 1})
		}
		for _, moment := range moments {
			checkOneCutIsNew(t, c, moment[0], moment[1])
		}
	}
}

func TestPromise19AsleepListsAreNew(t *testing.T) {
	for _, c := range slices.Concat(somePools(), spreadPools()) {
		p := poolOf(t, c)
		votes := slices.Clone(p.Votes)
		for _, moment := range someMoments() {
			now, keep := moment[0], moment[1]
			checkNewFrom(t, "AsleepIn", c.stakes, plainAsleep(c.votes, now, keep), func(stakes []int) []int {
				l, _ := impl.AsleepIn(c.tree, stakes, p, now, keep)
				return l
			})
		}
		if !slices.Equal(p.Votes, votes) {
			t.Fatalf("overwriting the result of AsleepIn changed the pool %v to %v", votes, p.Votes)
		}
	}
}

// TestExpiryCallsAtTheSameTime: no count of one call shows in another one, whether it comes before, after or at the same time.
func TestExpiryCallsAtTheSameTime(t *testing.T) {
	var wait sync.WaitGroup
	for _, c := range slices.Concat(somePools()[:8], spreadPools()[:40]) {
		p := poolOf(t, c)
		for _, moment := range someMoments() {
			asleep, weight := plainAsleep(c.votes, moment[0], moment[1]), plainWeightWithin(c.stakes, c.votes, moment[0], moment[1])
			wait.Go(func() {
				for range 3 {
					l, okAsleep := impl.AsleepIn(c.tree, c.stakes, p, moment[0], moment[1])
					n, okWeight := impl.WeightWithin(c.tree, c.stakes, p, moment[0], moment[1])
					if !sameList(l, asleep) || n != weight || !okAsleep || !okWeight {
						t.Errorf("AsleepIn(%v, %v) = %v, %v, want %v, WeightWithin %d, %v, want %d", p, moment, l, okAsleep, asleep, n, okWeight, weight)
					}
				}
			})
		}
	}
	wait.Wait()
}
