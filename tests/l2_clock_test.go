package tests

import (
	"math"
	"slices"
	"sync"
	"testing"

	"loop.example/g00564/impl"
)

// The tests below count ticks, lots and seeds one by one, from the document's words, without a division.

const (
	leastSeed    = 1
	greatestSeed = 65520
	lastDrawn    = 100
)

func someSeeds() []int {
	return []int{leastSeed, 2, 3, 12345, 17364, 32760, 65519, greatestSeed}
}

func badSeeds() []int {
	return []int{0, -1, -greatestSeed, greatestSeed + 1, greatestSeed + 2, 2 * greatestSeed, math.MaxInt, math.MinInt}
}

func badDeltas() []int {
	return []int{0, -1, -10, 11, 12, 100, math.MaxInt, math.MinInt}
}

// plainLots returns the voter of every number of the lottery.
func plainLots(stakes []int) []int {
	var lots []int
	for voter, stake := range stakes {
		lots = append(lots, repeated(voter, stake)...)
	}
	return lots
}

// plainSeeds returns the seed after every seed; each is 17364 more than that of the seed before.
func plainSeeds() []int {
	next := make([]int, greatestSeed+1)
	for seed := 1; seed <= greatestSeed; seed++ {
		next[seed] = next[seed-1] + 17364
		if next[seed] >= 65521 {
			next[seed] -= 65521
		}
	}
	return next
}

// plainTurns returns the proposers of the slots 0..last.
func plainTurns(next []int, stakes []int, seed int, last int) []int {
	lots := plainLots(stakes)
	var turns []int
	for range last + 1 {
		seed = next[seed]
		n := seed
		for n >= len(lots) {
			n -= len(lots)
		}
		turns = append(turns, lots[n])
	}
	return turns
}

// drawnStakes are fewer than someStakes, for the tests that take every seed or every slot with each of them.
func drawnStakes() [][]int {
	return [][]int{
		{1}, {impl.MaxStake}, {1, 1}, {1, 2, 3}, {3, 2, 1}, {1, 99}, {99, 1}, {5, 3, 9, 2},
		{1, impl.MaxStake}, {impl.MaxStake, 1, impl.MaxStake},
		repeated(1, impl.MaxVoters), repeated(impl.MaxStake, impl.MaxVoters),
		{1, 2, 3, 4, 5, 6, 7, 8, 9, 10}, {512, 256, 128, 64, 32, 16, 8, 4, 2, 1},
	}
}

func TestClockConstants(t *testing.T) {
	if impl.Phases != 4 || impl.MaxTick != 100000 || impl.MaxSlot != 4000 {
		t.Error(impl.Phases, impl.MaxTick, impl.MaxSlot)
	}
}

func TestClockExamples(t *testing.T) {
	if slot, phase, ok := impl.SlotOf(37, 2); slot != 4 || phase != 2 || !ok {
		t.Error("SlotOf", slot, phase, ok)
	}
	if n, ok := impl.StartOf(4, 2, 2); n != 36 || !ok {
		t.Error("StartOf", n, ok)
	}
	if n, ok := impl.NextSeed(1); n != 17364 || !ok {
		t.Error("NextSeed", n, ok)
	}
	s := []int{1, 2, 3}
	if k, ok := impl.LotAt(s, 3); k != 2 || !ok {
		t.Error("LotAt", k, ok)
	}
	if k, ok := impl.TurnOf(s, 1, 0); k != 0 || !ok {
		t.Error("TurnOf", k, ok)
	}
	if l, ok := impl.TurnsIn(s, 1, 1); !sameList(l, []int{0}) || !ok {
		t.Error("TurnsIn", l, ok)
	}
	if n, ok := impl.SlotsUntil(s, 1, 0); n != 0 || !ok {
		t.Error("SlotsUntil", n, ok)
	}
}

// TestSlotOfEveryTick counts through all ticks: a phase lasts delta ticks and a slot Phases phases.
func TestSlotOfEveryTick(t *testing.T) {
	for delta := 1; delta <= 10; delta++ {
		slot, phase, passed := 0, 0, 0
		for tick := 0; tick <= impl.MaxTick; tick++ {
			if gotSlot, gotPhase, ok := impl.SlotOf(tick, delta); gotSlot != slot || gotPhase != phase || !ok {
				t.Fatalf("SlotOf(%d, %d) = %d, %d, %v, want %d, %d", tick, delta, gotSlot, gotPhase, ok, slot, phase)
			}
			passed++
			if passed == delta {
				passed = 0
				phase++
			}
			if phase == impl.Phases {
				phase = 0
				slot++
			}
		}
	}
}

// TestSlotOfAtTheEnds has the first and the last tick of phases and of slots, and the last tick of all.
func TestSlotOfAtTheEnds(t *testing.T) {
	cases := []struct{ tick, delta, slot, phase int }{
		{0, 1, 0, 0}, {1, 1, 0, 1}, {3, 1, 0, 3}, {4, 1, 1, 0},
		{0, 10, 0, 0}, {9, 10, 0, 0}, {10, 10, 0, 1}, {29, 10, 0, 2}, {30, 10, 0, 3}, {39, 10, 0, 3}, {40, 10, 1, 0},
		{35, 2, 4, 1}, {36, 2, 4, 2}, {37, 2, 4, 2}, {38, 2, 4, 3}, {39, 2, 4, 3}, {40, 2, 5, 0},
		{impl.MaxTick, 1, 25000, 0}, {impl.MaxTick - 1, 1, 24999, 3},
		{impl.MaxTick, 2, 12500, 0}, {impl.MaxTick, 3, 8333, 1}, {impl.MaxTick, 6, 4166, 2},
		{impl.MaxTick, 7, 3571, 1}, {impl.MaxTick, 9, 2777, 3}, {impl.MaxTick, 10, 2500, 0}, {impl.MaxTick - 1, 10, 2499, 3},
	}
	for _, c := range cases {
		if slot, phase, ok := impl.SlotOf(c.tick, c.delta); slot != c.slot || phase != c.phase || !ok {
			t.Errorf("SlotOf(%d, %d) = %d, %d, %v, want %d, %d", c.tick, c.delta, slot, phase, ok, c.slot, c.phase)
		}
	}
}

// checkPhase expects the whole phase in SlotOf: its first and last tick, and the ticks beside them.
func checkPhase(t *testing.T, slot int, phase int, delta int, start int) {
	t.Helper()
	for _, tick := range []int{start, min(start+delta-1, impl.MaxTick)} {
		if s, p, ok := impl.SlotOf(tick, delta); s != slot || p != phase || !ok {
			t.Fatalf("SlotOf(%d, %d) = %d, %d, %v, want %d, %d", tick, delta, s, p, ok, slot, phase)
		}
	}
	for _, tick := range []int{start - 1, start + delta} {
		if s, p, ok := impl.SlotOf(tick, delta); ok && s == slot && p == phase {
			t.Fatalf("SlotOf(%d, %d) = %d, %d, but that phase is at %d", tick, delta, s, p, start)
		}
	}
}

// TestStartOfEveryPhase: StartOf counts on by delta, agrees with SlotOf, and returns true up to MaxTick and false beyond.
func TestStartOfEveryPhase(t *testing.T) {
	for delta := 1; delta <= 10; delta++ {
		start := 0
		for slot := 0; slot <= impl.MaxSlot; slot++ {
			for phase := range impl.Phases {
				n, ok := impl.StartOf(slot, phase, delta)
				if start <= impl.MaxTick && (n != start || !ok) {
					t.Fatalf("StartOf(%d, %d, %d) = %d, %v, want %d", slot, phase, delta, n, ok, start)
				}
				if start > impl.MaxTick && (n != 0 || ok) {
					t.Fatalf("StartOf(%d, %d, %d) = %d, %v, but %d is beyond MaxTick", slot, phase, delta, n, ok, start)
				}
				if ok {
					checkPhase(t, slot, phase, delta, start)
				}
				start += delta
			}
		}
	}
}

func TestStartOfAtTheEnds(t *testing.T) {
	cases := []struct {
		slot, phase, delta, want int
		ok                       bool
	}{
		{0, 0, 1, 0, true}, {0, 0, 10, 0, true}, {0, 3, 1, 3, true}, {0, 3, 10, 30, true},
		{impl.MaxSlot, 0, 1, 16000, true}, {impl.MaxSlot, 3, 1, 16003, true},
		{impl.MaxSlot, 0, 6, 96000, true}, {impl.MaxSlot, 3, 6, 96018, true},
		{impl.MaxSlot, 0, 7, 0, false}, {impl.MaxSlot, 3, 10, 0, false},
		{2500, 0, 10, impl.MaxTick, true}, {2500, 1, 10, 0, false}, {2501, 0, 10, 0, false}, {2499, 3, 10, 99990, true},
		{3125, 0, 8, impl.MaxTick, true}, {3125, 1, 8, 0, false},
		{3571, 1, 7, 99995, true}, {3571, 2, 7, 0, false},
		{2777, 3, 9, 99999, true}, {2778, 0, 9, 0, false},
	}
	for _, c := range cases {
		if n, ok := impl.StartOf(c.slot, c.phase, c.delta); n != c.want || ok != c.ok {
			t.Errorf("StartOf(%d, %d, %d) = %d, %v, want %d, %v", c.slot, c.phase, c.delta, n, ok, c.want, c.ok)
		}
	}
}

// TestClockWhoeverAsks: many ask at once, and all of them are told the same time.
func TestClockWhoeverAsks(t *testing.T) {
	var group sync.WaitGroup
	for who := range 64 {
		group.Add(1)
		go func() {
			defer group.Done()
			delta := who%10 + 1
			if slot, phase, ok := impl.SlotOf(delta*7, delta); slot != 1 || phase != 3 || !ok {
				t.Errorf("SlotOf(%d, %d) = %d, %d, %v", delta*7, delta, slot, phase, ok)
			}
			if n, ok := impl.StartOf(1, 3, delta); n != delta*7 || !ok {
				t.Errorf("StartOf(1, 3, %d) = %d, %v", delta, n, ok)
			}
		}()
	}
	group.Wait()
}

func TestNextSeedOfEverySeed(t *testing.T) {
	next := plainSeeds()
	seen := make([]bool, greatestSeed+1)
	for seed := 1; seed <= greatestSeed; seed++ {
		n, ok := impl.NextSeed(seed)
		if n != next[seed] || !ok {
			t.Fatalf("NextSeed(%d) = %d, %v, want %d", seed, n, ok, next[seed])
		}
		if n < 1 || n > greatestSeed || seen[n] {
			t.Fatalf("NextSeed(%d) = %d, which is no seed or comes twice", seed, n)
		}
		seen[n] = true
	}
	if n, ok := impl.NextSeed(greatestSeed); n != 48157 || !ok {
		t.Error("NextSeed", n, ok)
	}
	if n, ok := impl.NextSeed(17364); n != 46375 || !ok {
		t.Error("NextSeed", n, ok)
	}
}

func TestLotAtOfEveryNumber(t *testing.T) {
	for _, s := range someStakes() {
		lots := plainLots(s)
		for n, voter := range lots {
			if k, ok := impl.LotAt(s, n); k != voter || !ok {
				t.Fatalf("LotAt(%v, %d) = %d, %v, want %d", s, n, k, ok, voter)
			}
		}
		if k, ok := impl.LotAt(s, len(lots)); k != 0 || ok {
			t.Errorf("LotAt(%v, %d) = %d, %v", s, len(lots), k, ok)
		}
	}
}

// TestPromise2 uses LotAt alone: over all numbers of the lottery, each voter is drawn as often as its stake.
func TestPromise2(t *testing.T) {
	for _, s := range someStakes() {
		drawn := make([]int, len(s))
		for n := range plainSum(s) {
			k, ok := impl.LotAt(s, n)
			if !ok || k < 0 || k >= len(s) {
				t.Fatalf("LotAt(%v, %d) = %d, %v", s, n, k, ok)
			}
			drawn[k]++
		}
		if !slices.Equal(drawn, s) {
			t.Errorf("the lottery of %v draws its voters %v times", s, drawn)
		}
	}
}

// TestPromise2OverAllSeeds: the turns of one slot over all seeds are spread as the numbers of the lottery are.
func TestPromise2OverAllSeeds(t *testing.T) {
	s := []int{3, 1, 2}
	const rounds = greatestSeed / 6
	drawn := make([]int, len(s))
	for seed := 1; seed <= greatestSeed; seed++ {
		k, ok := impl.TurnOf(s, seed, 4)
		if !ok {
			t.Fatalf("TurnOf(%v, %d, 4) is false", s, seed)
		}
		drawn[k]++
	}
	if !slices.Equal(drawn, []int{3 * rounds, rounds, 2 * rounds}) {
		t.Errorf("over all seeds the voters of %v have %v turns", s, drawn)
	}
}

func TestTurnOfEverySlot(t *testing.T) {
	next := plainSeeds()
	for _, s := range drawnStakes() {
		for _, seed := range someSeeds() {
			for slot, want := range plainTurns(next, s, seed, lastDrawn) {
				if k, ok := impl.TurnOf(s, seed, slot); k != want || !ok {
					t.Fatalf("TurnOf(%v, %d, %d) = %d, %v, want %d", s, seed, slot, k, ok, want)
				}
			}
		}
	}
}

// TestTurnOfDrawsTheNextSeed: slot 0 is drawn by the seed after the first one, and each slot by one seed more.
func TestTurnOfDrawsTheNextSeed(t *testing.T) {
	for _, s := range drawnStakes() {
		for _, first := range someSeeds() {
			seed := first
			for slot := 0; slot <= lastDrawn; slot++ {
				seed, _ = impl.NextSeed(seed)
				want, _ := impl.LotAt(s, seed%plainSum(s))
				if k, ok := impl.TurnOf(s, first, slot); k != want || !ok {
					t.Fatalf("TurnOf(%v, %d, %d) = %d, %v, want %d", s, first, slot, k, ok, want)
				}
			}
		}
	}
}

func TestTurnsOfFixedSeeds(t *testing.T) {
	s := []int{1, 2, 3}
	cases := []struct {
		seed       int
		first      []int
		turn99     int
		turn100    int
		wantVoter0 int
	}{
		{leastSeed, []int{0, 1, 2, 2, 2, 0, 2, 2, 0, 2, 1, 0}, 2, 1, 0},
		{greatestSeed, []int{1, 0, 2, 2, 2, 1, 1, 1, 1, 2, 2, 1}, 2, 0, 1},
		{12345, []int{2, 1, 1, 0, 2, 1, 2, 1, 2, 0, 1, 0}, 2, 2, 3},
	}
	for _, c := range cases {
		if l, ok := impl.TurnsIn(s, c.seed, len(c.first)); !sameList(l, c.first) || !ok {
			t.Errorf("TurnsIn(%v, %d, %d) = %v, %v, want %v", s, c.seed, len(c.first), l, ok, c.first)
		}
		if k, ok := impl.TurnOf(s, c.seed, 99); k != c.turn99 || !ok {
			t.Errorf("TurnOf(%v, %d, 99) = %d, %v, want %d", s, c.seed, k, ok, c.turn99)
		}
		if k, ok := impl.TurnOf(s, c.seed, 100); k != c.turn100 || !ok {
			t.Errorf("TurnOf(%v, %d, 100) = %d, %v, want %d", s, c.seed, k, ok, c.turn100)
		}
		if n, ok := impl.SlotsUntil(s, c.seed, 0); n != c.wantVoter0 || !ok {
			t.Errorf("SlotsUntil(%v, %d, 0) = %d, %v, want %d", s, c.seed, n, ok, c.wantVoter0)
		}
	}
}

// TestTurnsInAgreesWithTurnOf has every length of the list, from none to 100 slots.
func TestTurnsInAgreesWithTurnOf(t *testing.T) {
	for _, s := range drawnStakes() {
		for _, seed := range someSeeds() {
			var want []int
			for many := 0; many <= 100; many++ {
				if l, ok := impl.TurnsIn(s, seed, many); !sameList(l, want) || !ok {
					t.Fatalf("TurnsIn(%v, %d, %d) = %v, %v, want %v", s, seed, many, l, ok, want)
				}
				k, ok := impl.TurnOf(s, seed, many)
				if !ok {
					t.Fatalf("TurnOf(%v, %d, %d) is false", s, seed, many)
				}
				want = append(want, k)
			}
		}
	}
}

// TestSlotsUntilIsTheFirstSlot looks for the voter in TurnOf of the slots 0..100, and expects false where it is in none.
func TestSlotsUntilIsTheFirstSlot(t *testing.T) {
	found, missed := 0, 0
	for _, s := range drawnStakes() {
		for _, seed := range someSeeds() {
			var turns []int
			for slot := 0; slot <= lastDrawn; slot++ {
				k, _ := impl.TurnOf(s, seed, slot)
				turns = append(turns, k)
			}
			for who := range s {
				first := slices.Index(turns, who)
				n, ok := impl.SlotsUntil(s, seed, who)
				if first >= 0 && (n != first || !ok) || first < 0 && (n != 0 || ok) {
					t.Errorf("SlotsUntil(%v, %d, %d) = %d, %v, first in slot %d", s, seed, who, n, ok, first)
				}
				if ok {
					found++
				} else {
					missed++
				}
			}
		}
	}
	if found == 0 || missed == 0 {
		t.Errorf("%d voters with a slot and %d without one: both are wanted", found, missed)
	}
}

// TestSlotsUntilAtTheEnd has voters whose first slot is 99, 100 or 101; the last of these is not looked at.
func TestSlotsUntilAtTheEnd(t *testing.T) {
	next := plainSeeds()
	cases := []struct {
		stakes []int
		seed   int
		who    int
		first  int
	}{
		{[]int{1, 99}, 3, 0, 99}, {[]int{1, 99}, 72, 0, 100}, {[]int{1, 99}, 63, 0, 101},
		{[]int{99, 1}, 203, 1, 99}, {[]int{99, 1}, 53, 1, 100}, {[]int{99, 1}, 12, 1, 101},
		{[]int{1, 50, 49}, 144, 0, 100}, {[]int{1000, 1, 1000}, 109, 1, 101},
	}
	for _, c := range cases {
		if first := slices.Index(plainTurns(next, c.stakes, c.seed, 101), c.who); first != c.first {
			t.Fatalf("%v, seed %d: the first slot of %d is %d", c.stakes, c.seed, c.who, first)
		}
		n, ok := impl.SlotsUntil(c.stakes, c.seed, c.who)
		if c.first <= lastDrawn && (n != c.first || !ok) {
			t.Errorf("SlotsUntil(%v, %d, %d) = %d, %v, want %d", c.stakes, c.seed, c.who, n, ok, c.first)
		}
		if c.first > lastDrawn && (n != 0 || ok) {
			t.Errorf("SlotsUntil(%v, %d, %d) = %d, %v, but its first slot is %d", c.stakes, c.seed, c.who, n, ok, c.first)
		}
	}
}

func checkSlotOfRefused(t *testing.T, tick int, delta int) {
	t.Helper()
	if slot, phase, ok := impl.SlotOf(tick, delta); slot != 0 || phase != 0 || ok {
		t.Errorf("SlotOf(%d, %d) = %d, %d, %v", tick, delta, slot, phase, ok)
	}
}

func checkStartOfRefused(t *testing.T, slot int, phase int, delta int) {
	t.Helper()
	if n, ok := impl.StartOf(slot, phase, delta); n != 0 || ok {
		t.Errorf("StartOf(%d, %d, %d) = %d, %v", slot, phase, delta, n, ok)
	}
}

func TestPromise19InvalidClock(t *testing.T) {
	badTicks := []int{-1, -2, -37, -impl.MaxTick, impl.MaxTick + 1, impl.MaxTick + 2, 2 * impl.MaxTick, math.MaxInt, math.MinInt}
	badSlots := []int{-1, -2, -impl.MaxSlot, impl.MaxSlot + 1, impl.MaxSlot + 2, math.MaxInt, math.MinInt, math.MaxInt / 4, math.MinInt / 4}
	badPhases := []int{-1, -4, impl.Phases, impl.Phases + 1, math.MaxInt, math.MinInt}
	for delta := 1; delta <= 10; delta++ {
		for _, tick := range badTicks {
			checkSlotOfRefused(t, tick, delta)
		}
		for _, slot := range badSlots {
			for phase := range impl.Phases {
				checkStartOfRefused(t, slot, phase, delta)
			}
		}
		for _, phase := range badPhases {
			for _, slot := range []int{0, 1, 4, 2400, impl.MaxSlot} {
				checkStartOfRefused(t, slot, phase, delta)
			}
		}
	}
	for _, delta := range badDeltas() {
		for _, tick := range append(badTicks, 0, 37, impl.MaxTick) {
			checkSlotOfRefused(t, tick, delta)
		}
		for _, slot := range append(badSlots, 0, 4, impl.MaxSlot) {
			for _, phase := range append(badPhases, 0, 1, 2, 3) {
				checkStartOfRefused(t, slot, phase, delta)
			}
		}
	}
}

func checkDrawsRefused(t *testing.T, s []int, seed int, slot int, many int, who int) {
	t.Helper()
	if k, ok := impl.TurnOf(s, seed, slot); k != 0 || ok {
		t.Errorf("TurnOf(%v, %d, %d) = %d, %v", s, seed, slot, k, ok)
	}
	if l, ok := impl.TurnsIn(s, seed, many); len(l) != 0 || ok {
		t.Errorf("TurnsIn(%v, %d, %d) = %v, %v", s, seed, many, l, ok)
	}
	if n, ok := impl.SlotsUntil(s, seed, who); n != 0 || ok {
		t.Errorf("SlotsUntil(%v, %d, %d) = %d, %v", s, seed, who, n, ok)
	}
}

func TestPromise19InvalidSeeds(t *testing.T) {
	for _, seed := range badSeeds() {
		if n, ok := impl.NextSeed(seed); n != 0 || ok {
			t.Errorf("NextSeed(%d) = %d, %v", seed, n, ok)
		}
		for _, s := range drawnStakes() {
			for _, n := range []int{0, 1, 100} {
				checkDrawsRefused(t, s, seed, n, n, len(s)-1)
			}
		}
	}
}

func TestPromise19InvalidSlotsManyAndWho(t *testing.T) {
	for _, s := range drawnStakes() {
		for _, seed := range someSeeds() {
			for _, n := range []int{-1, -2, -100, 101, 102, 1000, math.MaxInt, math.MinInt} {
				checkDrawsRefused(t, s, seed, n, n, n)
			}
			for _, who := range []int{len(s), len(s) + 1, impl.MaxVoters} {
				checkDrawsRefused(t, s, seed, 101, 101, who)
			}
		}
	}
}

// TestPromise19InvalidDrawStakes has stakes that are not valid with every other argument valid.
func TestPromise19InvalidDrawStakes(t *testing.T) {
	for _, s := range badStakes() {
		for _, n := range []int{0, 1, 100} {
			if k, ok := impl.LotAt(s, n); k != 0 || ok {
				t.Errorf("LotAt(%v, %d) = %d, %v", s, n, k, ok)
			}
			for _, seed := range []int{leastSeed, 12345, greatestSeed} {
				checkDrawsRefused(t, s, seed, n, n, 0)
			}
		}
	}
}

func TestPromise19InvalidLots(t *testing.T) {
	for _, s := range someStakes() {
		sum := plainSum(s)
		for _, n := range []int{-1, -2, -sum, sum, sum + 1, 2 * sum, 65521, math.MaxInt, math.MinInt} {
			if k, ok := impl.LotAt(s, n); k != 0 || ok {
				t.Errorf("LotAt(%v, %d) = %d, %v", s, n, k, ok)
			}
		}
	}
}

// TestPromise19StakesBehindTheLength: a spare element behind the length of the stakes has no lots and no turns.
func TestPromise19StakesBehindTheLength(t *testing.T) {
	s := roomy([]int{1, 1})
	if k, ok := impl.LotAt(s, 2); k != 0 || ok {
		t.Error("LotAt", k, ok)
	}
	if n, ok := impl.SlotsUntil(s, 1, 2); n != 0 || ok {
		t.Error("SlotsUntil", n, ok)
	}
	want, _ := impl.TurnsIn([]int{1, 1}, 1, 100)
	if l, ok := impl.TurnsIn(s, 1, 100); !sameList(l, want) || !ok {
		t.Error("TurnsIn", l, ok)
	}
	if k, ok := impl.TurnOf(s, 1, 99); k != want[99] || !ok {
		t.Error("TurnOf", k, ok)
	}
}

// TestPromise19StakesAreKept gives every function of the lottery valid and invalid stakes, and looks at them afterwards.
func TestPromise19StakesAreKept(t *testing.T) {
	numbers := []int{-1, 0, 1, 2, 100, 101, math.MaxInt, math.MinInt}
	for _, stakes := range append(badStakes(), drawnStakes()...) {
		for _, seed := range []int{0, leastSeed, 12345, greatestSeed, greatestSeed + 1} {
			for _, n := range numbers {
				s := roomy(stakes)
				impl.LotAt(s, n)
				checkKept(t, "LotAt", s, stakes)
				impl.TurnOf(s, seed, n)
				checkKept(t, "TurnOf", s, stakes)
				impl.TurnsIn(s, seed, n)
				checkKept(t, "TurnsIn", s, stakes)
				impl.SlotsUntil(s, seed, n)
				checkKept(t, "SlotsUntil", s, stakes)
			}
		}
	}
}

// TestPromise19TurnsAreNew overwrites each result and expects neither the argument nor another result to change.
func TestPromise19TurnsAreNew(t *testing.T) {
	stakes := repeated(1, impl.MaxVoters)
	want := plainTurns(plainSeeds(), stakes, 7, 99)
	for _, many := range []int{1, impl.MaxVoters, 100} {
		s := roomy(stakes)
		first, _ := impl.TurnsIn(s, 7, many)
		second, _ := impl.TurnsIn(s, 7, many)
		overwrite(first)
		checkKept(t, "TurnsIn", s, stakes)
		third, _ := impl.TurnsIn(s, 7, many)
		for _, l := range [][]int{second, third} {
			if !sameList(l, want[:many]) {
				t.Errorf("TurnsIn(%v, 7, %d) = %v, want %v", stakes, many, l, want[:many])
			}
		}
		overwrite(s)
		if !sameList(second, want[:many]) {
			t.Error("TurnsIn shares memory with its argument", second)
		}
	}
}
