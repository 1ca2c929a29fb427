package tests

import (
	"slices"
	"sync"
	"testing"

	"loop.example/g00564/impl"
)

// The tests below look for each vote of a list in another list, from the document's words, without sets.

// mostViews is the greatest number of views of HeadsAfter.
const mostViews = 6

func plainWithin(a []impl.Vote, b []impl.Vote) bool {
	for _, v := range a {
		if !slices.Contains(b, v) {
			return false
		}
	}
	return true
}

func plainUnion(a []impl.Vote, b []impl.Vote) []impl.Vote {
	return plainPool(slices.Concat(a, b))
}

func plainHeadOf(tree []impl.Block, stakes []int, votes []impl.Vote) int {
	return plainHead(tree, plainSub(tree, plainWeights(tree, stakes, votes)), 0)
}

// viewCase has the votes of a view and the votes that it sees or is shown, all of them in the order of a pool.
type viewCase struct {
	tree   []impl.Block
	stakes []int
	seen   []impl.Vote
	frozen []impl.Vote
	shown  []impl.Vote
}

func viewOf(seen []impl.Vote, frozen []impl.Vote) impl.View {
	return impl.View{Seen: impl.Pool{Votes: seen}, Frozen: impl.Pool{Votes: frozen}}
}

func (c viewCase) view() impl.View {
	return viewOf(c.seen, c.frozen)
}

func (c viewCase) pool() impl.Pool {
	return impl.Pool{Votes: c.shown}
}

func sameView(w impl.View, seen []impl.Vote, frozen []impl.Vote) bool {
	return slices.Equal(w.Seen.Votes, seen) && slices.Equal(w.Frozen.Votes, frozen)
}

func isNoView(w impl.View) bool {
	return sameView(w, nil, nil)
}

// The places of a vote: neither seen nor frozen, seen, or both; with alsoShown added, it is shown too.
const (
	nowhere    = 0
	seenOnly   = 1
	seenFrozen = 2
	alsoShown  = 3
	places     = 6
)

// viewByPlaces puts the votes of a pool into the three pools of a case.
func viewByPlaces(c poolCase, placeOf []int) viewCase {
	view := viewCase{tree: c.tree, stakes: c.stakes}
	for k, v := range plainPool(c.votes) {
		if placeOf[k]%alsoShown != nowhere {
			view.seen = append(view.seen, v)
		}
		if placeOf[k]%alsoShown == seenFrozen {
			view.frozen = append(view.frozen, v)
		}
		if placeOf[k] >= alsoShown {
			view.shown = append(view.shown, v)
		}
	}
	return view
}

// someViews draws the places of the votes of every pool: all of them, and those in which no frozen vote is missing among the shown ones.
func someViews() []viewCase {
	var cases []viewCase
	for seed, c := range slices.Concat(somePools(), spreadPools()) {
		many := len(plainPool(c.votes))
		cases = append(cases, viewByPlaces(c, drawnNumbers(many, places-1, seed+1)))
		merging := drawnNumbers(many, places-1, seed+2)
		for k, place := range merging {
			if place == seenFrozen {
				merging[k] = alsoShown + seenFrozen
			}
		}
		cases = append(cases, viewByPlaces(c, merging))
		for _, place := range []int{nowhere, seenOnly, seenFrozen, alsoShown, alsoShown + seenOnly, alsoShown + seenFrozen} {
			cases = append(cases, viewByPlaces(c, repeated(place, many)))
		}
	}
	return cases
}

// smallViews has every place of each of four votes for the two blocks of a fork; voter 0 may equivocate.
func smallViews() []viewCase {
	c := poolCase{starTree(3), []int{2, 3, 4}, votesBy([][3]int{{0, 9, 1}, {0, 9, 2}, {1, 9, 2}, {2, 8, 1}})}
	var cases []viewCase
	eachListOf(len(c.votes), []int{0, 1, 2, 3, 4, 5}, func(placeOf []int) {
		cases = append(cases, viewByPlaces(c, placeOf))
	})
	return cases
}

// checkSight expects what the document's words say of the functions that see, freeze and show votes.
func checkSight(t *testing.T, c viewCase) {
	t.Helper()
	w, p := c.view(), c.pool()
	seen, frozen := plainUnion(c.seen, c.shown), plainUnion(c.frozen, c.shown)
	if x, ok := impl.NewView(c.tree, c.stakes, p); !sameView(x, c.shown, c.shown) || !ok {
		t.Fatalf("NewView(%v) = %v, %v", p, x, ok)
	}
	if x, ok := impl.SeeVotes(c.tree, c.stakes, w, p); !sameView(x, seen, c.frozen) || !ok {
		t.Fatalf("SeeVotes(%v, %v) = %v, %v", w, p, x, ok)
	}
	if x, ok := impl.FreezeView(c.tree, c.stakes, w); !sameView(x, c.seen, c.seen) || !ok {
		t.Fatalf("FreezeView(%v) = %v, %v", w, x, ok)
	}
	if x, ok := impl.MergeView(c.tree, c.stakes, w, p); !sameView(x, seen, frozen) || !ok {
		t.Fatalf("MergeView(%v, %v) = %v, %v", w, p, x, ok)
	}
}

// checkViewing expects what the document's words say of a view and of the votes shown to it.
func checkViewing(t *testing.T, c viewCase) {
	t.Helper()
	w, p := c.view(), c.pool()
	if !impl.GoodView(c.tree, c.stakes, w) {
		t.Fatalf("GoodView(%v, %v, %v) is false", c.tree, c.stakes, w)
	}
	checkSight(t, c)
	want := plainHeadOf(c.tree, c.stakes, c.frozen)
	if head, ok := impl.HeadByView(c.tree, c.stakes, w); head != want || !ok {
		t.Fatalf("HeadByView(%v, %v, %v) = %d, %v, want %d", c.tree, c.stakes, w, head, ok, want)
	}
	after := plainHeadOf(c.tree, c.stakes, plainUnion(c.frozen, c.shown))
	if heads, ok := impl.HeadsAfter(c.tree, c.stakes, []impl.View{w}, p); !sameList(heads, []int{after}) || !ok {
		t.Fatalf("HeadsAfter(%v, %v, [%v], %v) = %v, %v, want %d", c.tree, c.stakes, w, p, heads, ok, after)
	}
	for _, a := range [][]impl.Vote{c.seen, c.frozen, c.shown} {
		for _, b := range [][]impl.Vote{c.seen, c.frozen, c.shown} {
			checkWithin(t, c.tree, c.stakes, a, b)
		}
	}
}

func checkWithin(t *testing.T, tree []impl.Block, stakes []int, a []impl.Vote, b []impl.Vote) {
	t.Helper()
	want := plainWithin(a, b)
	if is, ok := impl.IsWithin(tree, stakes, impl.Pool{Votes: a}, impl.Pool{Votes: b}); is != want || !ok {
		t.Fatalf("IsWithin(%v, %v) = %v, %v, want %v", a, b, is, ok, want)
	}
}

// exampleViews are the pools and views of the document's examples.
func exampleViews(t *testing.T) (a impl.Pool, b impl.Pool, w impl.View, x impl.View) {
	t.Helper()
	tr, s := exampleTree(), []int{1, 1, 1}
	a = poolOf(t, poolCase{tr, s, []impl.Vote{{Who: 0, Slot: 5, Block: 4}}})
	b = poolOf(t, poolCase{tr, s, []impl.Vote{{Who: 1, Slot: 5, Block: 2}, {Who: 2, Slot: 5, Block: 2}}})
	w, okNew := impl.NewView(tr, s, a)
	x, okSee := impl.SeeVotes(tr, s, w, b)
	if !okNew || !okSee {
		t.Fatal(w, okNew, x, okSee)
	}
	return a, b, w, x
}

func TestViewExamples(t *testing.T) {
	tr, s := exampleTree(), []int{1, 1, 1}
	a, b, w, x := exampleViews(t)
	both := plainUnion(a.Votes, b.Votes)
	if !sameView(w, a.Votes, a.Votes) || !sameView(x, both, a.Votes) {
		t.Error("w, x:", w, x)
	}
	if !impl.GoodView(tr, s, w) || !impl.GoodView(tr, s, x) {
		t.Error("GoodView", w, x)
	}
	if head, ok := impl.HeadByView(tr, s, x); head != 4 || !ok {
		t.Error("HeadByView", head, ok)
	}
	f, ok := impl.FreezeView(tr, s, x)
	if !sameView(f, both, both) || !ok {
		t.Error("FreezeView", f, ok)
	}
	if head, ok := impl.HeadByView(tr, s, f); head != 2 || !ok {
		t.Error("HeadByView", head, ok)
	}
	m, ok := impl.MergeView(tr, s, w, b)
	if !sameView(m, both, both) || !ok {
		t.Error("MergeView", m, ok)
	}
	if is, ok := impl.IsWithin(tr, s, b, m.Frozen); !is || !ok {
		t.Error("IsWithin", is, ok)
	}
	if heads, ok := impl.HeadsAfter(tr, s, []impl.View{w, x}, b); !sameList(heads, []int{2, 2}) || !ok {
		t.Error("HeadsAfter", heads, ok)
	}
}

func TestViewingOfEveryCase(t *testing.T) {
	for _, c := range append(someViews(), smallViews()...) {
		checkViewing(t, c)
	}
}

// TestPromise9FrozenAmongShown uses the package alone: the voter has the head of the proposer after merging, and its very votes.
func TestPromise9FrozenAmongShown(t *testing.T) {
	merged, moved, others := 0, 0, 0
	for _, c := range append(someViews(), smallViews()...) {
		w, p := c.view(), c.pool()
		within, okWithin := impl.IsWithin(c.tree, c.stakes, w.Frozen, p)
		before, okBefore := impl.HeadByView(c.tree, c.stakes, w)
		x, okMerge := impl.MergeView(c.tree, c.stakes, w, p)
		after, okAfter := impl.HeadByView(c.tree, c.stakes, x)
		head, okHead := impl.HeadOf(c.tree, c.stakes, p)
		if !okWithin || !okBefore || !okMerge || !okAfter || !okHead {
			t.Fatal(c, okWithin, okBefore, okMerge, okAfter, okHead)
		}
		if !within {
			if after != head {
				others++
			}
			continue
		}
		merged++
		if after != head || !slices.Equal(x.Frozen.Votes, p.Votes) {
			t.Fatalf("after merging %v with %v the head is %d by %v, but the proposer's is %d", w, p, after, x.Frozen, head)
		}
		if before != head {
			moved++
		}
	}
	// The promise would be empty if no head changed, or if a voter with other frozen votes had the same head anyway.
	if merged < 500 || moved < 100 || others < 100 {
		t.Errorf("only %d views with %d heads that changed, and %d other heads", merged, moved, others)
	}
}

// TestPromise9AllVoters lets six voters freeze different parts of what the proposer shows.
func TestPromise9AllVoters(t *testing.T) {
	moved := 0
	for seed, c := range slices.Concat(somePools(), spreadPools()) {
		all := plainPool(c.votes)
		views, head := make([]impl.View, mostViews), plainHeadOf(c.tree, c.stakes, all)
		for voter := range views {
			own := viewByPlaces(c, drawnNumbers(len(all), alsoShown-1, seed+voter+1))
			// What a voter sees late is not shown, and does not divide it from the others.
			late := impl.Vote{Who: 0, Slot: impl.MaxSlot - voter, Block: 0}
			if len(all) < impl.MaxVotes {
				own.seen = plainUnion(own.seen, []impl.Vote{late})
			}
			views[voter] = own.view()
			if before, ok := impl.HeadByView(c.tree, c.stakes, views[voter]); before != head || !ok {
				moved++
			}
		}
		heads, ok := impl.HeadsAfter(c.tree, c.stakes, views, impl.Pool{Votes: all})
		if !sameList(heads, repeated(head, mostViews)) || !ok {
			t.Fatalf("HeadsAfter(%v, %v, %v, %v) = %v, %v, want %d", c.tree, c.stakes, views, all, heads, ok, head)
		}
	}
	if moved < 100 {
		t.Errorf("only %d voters had another head before", moved)
	}
}

// seeOneByOne shows a view vote after vote, none of which may change its head or its frozen votes.
func seeOneByOne(t *testing.T, c viewCase, w impl.View, votes []impl.Vote) impl.View {
	t.Helper()
	head, ok := impl.HeadByView(c.tree, c.stakes, w)
	if !ok {
		t.Fatalf("HeadByView(%v, %v, %v) is refused", c.tree, c.stakes, w)
	}
	for _, v := range votes {
		next, okSee := impl.SeeVotes(c.tree, c.stakes, w, impl.Pool{Votes: []impl.Vote{v}})
		if !sameView(next, plainUnion(w.Seen.Votes, []impl.Vote{v}), w.Frozen.Votes) || !okSee {
			t.Fatalf("SeeVotes(%v, %v) = %v, %v", w, v, next, okSee)
		}
		if now, ok := impl.HeadByView(c.tree, c.stakes, next); now != head || !ok {
			t.Fatalf("seeing %v changed the head by %v from %d to %d, %v", v, w, head, now, ok)
		}
		w = next
	}
	return w
}

// TestPromise9SeenVotesWait: a vote that is seen after a freeze has no effect on the head before the next one.
func TestPromise9SeenVotesWait(t *testing.T) {
	changed := 0
	for _, c := range append(someViews(), smallViews()...) {
		w := seeOneByOne(t, c, c.view(), c.shown)
		before, _ := impl.HeadByView(c.tree, c.stakes, w)
		f, okFreeze := impl.FreezeView(c.tree, c.stakes, w)
		all := plainUnion(c.seen, c.shown)
		if !sameView(f, all, all) || !okFreeze {
			t.Fatalf("FreezeView(%v) = %v, %v", w, f, okFreeze)
		}
		want, okHead := impl.HeadOf(c.tree, c.stakes, w.Seen)
		after, okAfter := impl.HeadByView(c.tree, c.stakes, f)
		if after != want || !okHead || !okAfter {
			t.Fatalf("HeadByView(%v) = %d, %v after the freeze, want %d, %v", f, after, okAfter, want, okHead)
		}
		if after != before {
			changed++
		}
		again, ok := impl.FreezeView(c.tree, c.stakes, f)
		if !sameView(again, all, all) || !ok {
			t.Fatalf("FreezeView(%v) = %v, %v, the second time", f, again, ok)
		}
	}
	if changed < 300 {
		t.Errorf("only %d heads changed by the freeze", changed)
	}
}

// TestFrozenVotesThatWereNotShown: they stay, and they count, so the head may be another one than the proposer's.
func TestFrozenVotesThatWereNotShown(t *testing.T) {
	tr, s := exampleTree(), []int{1, 1, 1}
	cases := []struct {
		name                            string
		seen, frozen, shown             [][3]int
		before, proposer, after, freeze int
	}{
		{"outvoted by the frozen votes", [][3]int{{1, 5, 2}, {2, 5, 2}}, [][3]int{{1, 5, 2}, {2, 5, 2}}, [][3]int{{0, 5, 4}}, 2, 4, 2, 2},
		{"the frozen votes are outvoted", [][3]int{{2, 5, 2}}, [][3]int{{2, 5, 2}}, [][3]int{{0, 5, 4}, {1, 5, 4}}, 2, 4, 4, 4},
		{"seen votes do not count", [][3]int{{1, 5, 2}, {2, 5, 2}}, nil, [][3]int{{0, 5, 4}}, 2, 4, 4, 2},
		{"half of the seen votes count", [][3]int{{1, 5, 2}, {2, 5, 2}}, [][3]int{{1, 5, 2}}, [][3]int{{0, 5, 4}, {2, 4, 4}}, 2, 4, 4, 2},
		{"the shown vote is later", [][3]int{{0, 5, 2}}, [][3]int{{0, 5, 2}}, [][3]int{{0, 6, 4}}, 2, 4, 4, 4},
		{"the shown vote is earlier", [][3]int{{0, 6, 2}}, [][3]int{{0, 6, 2}}, [][3]int{{0, 5, 4}}, 2, 4, 2, 2},
		{"the shown vote equivocates with the frozen one", [][3]int{{0, 5, 2}, {1, 4, 2}}, [][3]int{{0, 5, 2}, {1, 4, 2}}, [][3]int{{0, 5, 4}, {1, 5, 4}}, 2, 4, 4, 4},
		{"the shown vote equivocates with a seen one", [][3]int{{0, 5, 2}}, nil, [][3]int{{0, 5, 4}}, 2, 4, 4, 2},
		{"the frozen votes show a liar of the proposer", [][3]int{{0, 5, 4}}, [][3]int{{0, 5, 4}}, [][3]int{{0, 5, 2}, {1, 5, 3}}, 4, 2, 4, 4},
		{"nothing is shown", [][3]int{{0, 5, 4}, {1, 5, 2}, {2, 5, 2}}, [][3]int{{0, 5, 4}}, nil, 4, 2, 4, 2},
		{"nothing has been seen", nil, nil, [][3]int{{0, 5, 4}}, 2, 4, 4, 4},
		{"nothing at all", nil, nil, nil, 2, 2, 2, 2},
	}
	for _, c := range cases {
		w, p := viewOf(votesBy(c.seen), votesBy(c.frozen)), impl.Pool{Votes: votesBy(c.shown)}
		checkViewing(t, viewCase{tr, s, w.Seen.Votes, w.Frozen.Votes, p.Votes})
		before, _ := impl.HeadByView(tr, s, w)
		proposer, _ := impl.HeadOf(tr, s, p)
		m, ok := impl.MergeView(tr, s, w, p)
		after, _ := impl.HeadByView(tr, s, m)
		f, okFreeze := impl.FreezeView(tr, s, m)
		freeze, _ := impl.HeadByView(tr, s, f)
		if before != c.before || proposer != c.proposer || after != c.after || freeze != c.freeze || !ok || !okFreeze {
			t.Errorf("%s: the heads are %d, %d, %d, %d, want %d, %d, %d, %d", c.name, before, proposer, after, freeze, c.before, c.proposer, c.after, c.freeze)
		}
	}
}

// TestMergeViewIsSeeingAndFreezing relates the functions by the package alone.
func TestMergeViewIsSeeingAndFreezing(t *testing.T) {
	for _, c := range append(someViews(), smallViews()...) {
		w, p := c.view(), c.pool()
		m, okMerge := impl.MergeView(c.tree, c.stakes, w, p)
		x, okSee := impl.SeeVotes(c.tree, c.stakes, w, p)
		if !slices.Equal(m.Seen.Votes, x.Seen.Votes) || !okMerge || !okSee {
			t.Fatalf("MergeView(%v, %v) = %v, %v, but SeeVotes %v, %v", w, p, m, okMerge, x, okSee)
		}
		for _, good := range []impl.View{m, x} {
			if !impl.GoodView(c.tree, c.stakes, good) {
				t.Fatalf("GoodView(%v) is false", good)
			}
		}
		for _, within := range []impl.Pool{p, w.Frozen} {
			if is, ok := impl.IsWithin(c.tree, c.stakes, within, m.Frozen); !is || !ok {
				t.Fatalf("MergeView(%v, %v) = %v lacks some of %v", w, p, m, within)
			}
		}
		again, ok := impl.MergeView(c.tree, c.stakes, m, p)
		if !sameView(again, m.Seen.Votes, m.Frozen.Votes) || !ok {
			t.Fatalf("MergeView(%v, %v) = %v, %v, the second time", m, p, again, ok)
		}
		// Where all that has been seen is frozen, merging is seeing and freezing.
		f, _ := impl.FreezeView(c.tree, c.stakes, w)
		merged, okMerged := impl.MergeView(c.tree, c.stakes, f, p)
		frozen, okFrozen := impl.FreezeView(c.tree, c.stakes, x)
		if !sameView(merged, frozen.Seen.Votes, frozen.Frozen.Votes) || !okMerged || !okFrozen {
			t.Fatalf("MergeView(%v, %v) = %v, %v, but freezing it is %v, %v", f, p, merged, okMerged, frozen, okFrozen)
		}
	}
}

func TestHeadByViewIsHeadOfFrozen(t *testing.T) {
	for _, c := range ghostPools() {
		all := plainPool(c.votes)
		want, okHead := impl.HeadOf(c.tree, c.stakes, impl.Pool{Votes: all})
		if head, ok := impl.HeadByView(c.tree, c.stakes, viewOf(all, all)); head != want || !ok || !okHead {
			t.Fatalf("HeadByView(%v, %v, %v) = %d, %v, want %d", c.tree, c.stakes, all, head, ok, want)
		}
		none, okNone := impl.HeadOf(c.tree, c.stakes, impl.Pool{})
		if head, ok := impl.HeadByView(c.tree, c.stakes, viewOf(all, nil)); head != none || !ok || !okNone {
			t.Fatalf("HeadByView(%v, %v, %v) without frozen votes = %d, %v, want %d", c.tree, c.stakes, all, head, ok, none)
		}
	}
}

func TestIsWithinCases(t *testing.T) {
	tr, s := exampleTree(), []int{1, 1, 1}
	one, two := [][3]int{{1, 5, 2}}, [][3]int{{0, 5, 4}, {1, 5, 2}}
	full := plainPool(differentVotes(tr, 3, impl.MaxVotes))
	cases := []struct {
		name string
		a, b []impl.Vote
		is   bool
	}{
		{"both empty", nil, nil, true},
		{"the empty pool in one vote", nil, votesBy(one), true},
		{"the empty pool in a full one", []impl.Vote{}, full, true},
		{"one vote in the empty pool", votesBy(one), nil, false},
		{"a full pool in the empty one", full, []impl.Vote{}, false},
		{"equal pools of one vote", votesBy(one), votesBy(one), true},
		{"equal pools of two votes", votesBy(two), votesBy(two), true},
		{"equal full pools", full, slices.Clone(full), true},
		{"the second of two", votesBy(one), votesBy(two), true},
		{"the first of two", votesBy(two)[:1], votesBy(two), true},
		{"one more", votesBy(two), votesBy(one), false},
		{"another Who", votesBy(one), votesBy([][3]int{{0, 5, 2}, {2, 5, 2}}), false},
		{"another Slot", votesBy(one), votesBy([][3]int{{1, 4, 2}, {1, 6, 2}}), false},
		{"another Block", votesBy(one), votesBy([][3]int{{1, 5, 1}, {1, 5, 3}}), false},
		{"as many others", votesBy(two), votesBy([][3]int{{0, 5, 4}, {2, 5, 2}}), false},
		{"an equivocation of one vote", votesBy([][3]int{{1, 5, 2}, {1, 5, 3}}), votesBy(one), false},
		{"one vote of an equivocation", votesBy(one), votesBy([][3]int{{1, 5, 2}, {1, 5, 3}}), true},
	}
	for _, c := range cases {
		if is, ok := impl.IsWithin(tr, s, impl.Pool{Votes: c.a}, impl.Pool{Votes: c.b}); is != c.is || !ok {
			t.Errorf("%s: IsWithin(%v, %v) = %v, %v, want %v", c.name, c.a, c.b, is, ok, c.is)
		}
	}
	// Each vote of a full pool is missing in turn.
	for k := range full {
		but := slices.Delete(slices.Clone(full), k, k+1)
		if is, ok := impl.IsWithin(tr, s, impl.Pool{Votes: full}, impl.Pool{Votes: but}); is || !ok {
			t.Errorf("IsWithin = %v, %v, but vote %d is missing", is, ok, k)
		}
		if is, ok := impl.IsWithin(tr, s, impl.Pool{Votes: but}, impl.Pool{Votes: full}); !is || !ok {
			t.Errorf("IsWithin = %v, %v without vote %d", is, ok, k)
		}
	}
}

func TestIsWithinOfEveryPair(t *testing.T) {
	pools := smallPools()
	for k, a := range pools {
		for i := k % 7; i < len(pools); i += 7 {
			checkWithin(t, a.tree, a.stakes, plainPool(a.votes), plainPool(pools[i].votes))
		}
	}
}

// unionsAtTheLimit has unions of seen or frozen votes with the shown ones around MaxVotes.
func unionsAtTheLimit() []viewCase {
	tr, s := exampleTree(), []int{1, 1, 1}
	all := differentVotes(tr, 3, impl.MaxVotes+2)
	var cases []viewCase
	for _, many := range []int{impl.MaxVotes - 1, impl.MaxVotes, impl.MaxVotes + 1, impl.MaxVotes + 2} {
		for _, seen := range []int{0, 1, 2, 30, impl.MaxVotes - 1, impl.MaxVotes} {
			for _, frozen := range []int{0, 1, seen / 2, seen - 1, seen} {
				for _, common := range []int{0, 1, seen / 2, seen} {
					// The shown votes are the last ones of the union, and some of the first.
					shownVotes := slices.Concat(all[seen:max(many, seen)], all[:min(common, seen)])
					if frozen < 0 || frozen > seen || len(shownVotes) > impl.MaxVotes {
						continue
					}
					cases = append(cases,
						viewCase{tr, s, plainPool(all[:seen]), plainPool(all[:frozen]), plainPool(shownVotes)},
						viewCase{tr, s, plainPool(all[:seen]), plainPool(all[seen-frozen : seen]), plainPool(shownVotes)})
				}
			}
		}
	}
	return cases
}

// TestUnionsAtTheLimit: each merging function is refused exactly where one of its unions is too large.
func TestUnionsAtTheLimit(t *testing.T) {
	full, refused, oneOnly := 0, 0, 0
	for _, c := range unionsAtTheLimit() {
		w, p := c.view(), c.pool()
		many := len(plainUnion(c.seen, c.shown))
		if many <= impl.MaxVotes {
			checkViewing(t, c)
			if many == impl.MaxVotes {
				full++
			}
			continue
		}
		refused++
		if len(plainUnion(c.frozen, c.shown)) <= impl.MaxVotes {
			oneOnly++
		}
		checkUnionRefused(t, c.tree, c.stakes, w, p)
		for at := range mostViews {
			views := slices.Insert(make([]impl.View, mostViews-1), at, w)
			checkHeadsAfterRefused(t, c.tree, c.stakes, views, p)
		}
	}
	if full < 50 || refused < 100 || oneOnly < 50 {
		t.Errorf("only %d full unions and %d too large ones, %d of these by the seen votes alone", full, refused, oneOnly)
	}
}

func TestUnionsOfFullPools(t *testing.T) {
	tr, s := exampleTree(), []int{1, 1, 1}
	all := plainPool(differentVotes(tr, 3, impl.MaxVotes+1))
	but, last := all[:impl.MaxVotes], all[impl.MaxVotes:]
	// A full pool takes its own votes, but no other one, however few are frozen.
	for _, frozen := range [][]impl.Vote{nil, but[:1], but[1:], but} {
		checkViewing(t, viewCase{tr, s, but, frozen, but})
		checkViewing(t, viewCase{tr, s, but, frozen, but[7:9]})
		checkViewing(t, viewCase{tr, s, but, frozen, nil})
		checkUnionRefused(t, tr, s, viewOf(but, frozen), impl.Pool{Votes: last})
		checkUnionRefused(t, tr, s, viewOf(but, frozen), impl.Pool{Votes: all[1:]})
	}
	checkUnionRefused(t, tr, s, viewOf(last, nil), impl.Pool{Votes: but})
	checkUnionRefused(t, tr, s, viewOf(last, last), impl.Pool{Votes: but})
	checkViewing(t, viewCase{tr, s, but[:1], nil, but})
	checkViewing(t, viewCase{tr, s, nil, nil, but})
}

// sixViews are for the example's tree and the stakes 1, 1 and 2, with a pool to show and the head of each view after that.
func sixViews() (stakes []int, views []impl.View, p impl.Pool, heads []int) {
	toTwo := votesBy([][3]int{{1, 5, 2}})
	toFour := votesBy([][3]int{{0, 5, 4}, {2, 5, 4}})
	toFourLater := votesBy([][3]int{{1, 6, 4}})
	views = []impl.View{{}, viewOf(toFour, toFour), viewOf(toFour, nil), viewOf(toFourLater, toFourLater), viewOf(toTwo, toTwo), viewOf(toFour, toFour[:1])}
	// The last view has a tie of its frozen vote with the shown one.
	return []int{1, 1, 2}, views, impl.Pool{Votes: toTwo}, []int{2, 4, 2, 4, 2, 2}
}

func TestHeadsAfterNumbersOfViews(t *testing.T) {
	tr := exampleTree()
	s, views, p, want := sixViews()
	for many := range mostViews + 1 {
		if heads, ok := impl.HeadsAfter(tr, s, views[:many], p); !sameList(heads, want[:many]) || !ok {
			t.Errorf("HeadsAfter of %d views = %v, %v, want %v", many, heads, ok, want[:many])
		}
		if heads, ok := impl.HeadsAfter(tr, s, make([]impl.View, many), p); !sameList(heads, repeated(2, many)) || !ok {
			t.Errorf("HeadsAfter of %d empty views = %v, %v", many, heads, ok)
		}
	}
	for _, none := range [][]impl.View{nil, {}} {
		for _, votes := range [][]impl.Vote{nil, p.Votes} {
			if heads, ok := impl.HeadsAfter(tr, s, none, impl.Pool{Votes: votes}); len(heads) != 0 || !ok {
				t.Errorf("HeadsAfter of no view = %v, %v", heads, ok)
			}
		}
	}
	for _, many := range []int{mostViews + 1, mostViews + 2, 2 * mostViews, 1000} {
		checkHeadsAfterRefused(t, tr, s, make([]impl.View, many), p)
		checkHeadsAfterRefused(t, tr, s, make([]impl.View, many), impl.Pool{})
		checkHeadsAfterRefused(t, tr, s, slices.Repeat(views, many)[:many], p)
	}
}

// TestHeadsAfterInOrder: the heads are in the order of the views, whatever order these are in.
func TestHeadsAfterInOrder(t *testing.T) {
	tr := exampleTree()
	s, views, p, want := sixViews()
	for range mostViews {
		views, want = append(views[1:], views[0]), append(want[1:], want[0])
		if heads, ok := impl.HeadsAfter(tr, s, views, p); !sameList(heads, want) || !ok {
			t.Errorf("HeadsAfter(%v) = %v, %v, want %v", views, heads, ok, want)
		}
	}
}

// TestHeadsAfterIsMergeView uses the package alone, with up to six views of one tree.
func TestHeadsAfterIsMergeView(t *testing.T) {
	different := 0
	for seed, c := range slices.Concat(somePools(), spreadPools()) {
		many := len(plainPool(c.votes))
		p := viewByPlaces(c, drawnNumbers(many, places-1, seed+9)).pool()
		var views []impl.View
		var want []int
		for k := range seed%mostViews + 1 {
			w := viewByPlaces(c, drawnNumbers(many, alsoShown-1, seed+k+1)).view()
			m, okMerge := impl.MergeView(c.tree, c.stakes, w, p)
			head, okHead := impl.HeadByView(c.tree, c.stakes, m)
			if !okMerge || !okHead {
				t.Fatal(c, w, m, okMerge, head, okHead)
			}
			views, want = append(views, w), append(want, head)
		}
		heads, ok := impl.HeadsAfter(c.tree, c.stakes, views, p)
		if !sameList(heads, want) || !ok {
			t.Fatalf("HeadsAfter(%v, %v, %v, %v) = %v, %v, want %v", c.tree, c.stakes, views, p, heads, ok, want)
		}
		if slices.Min(heads) != slices.Max(heads) {
			different++
		}
	}
	if different < 20 {
		t.Errorf("only %d lists of different heads", different)
	}
}

// badView is a view that is not valid, with the reason.
type badView struct {
	why  string
	view impl.View
}

// badViews are not valid for the example's tree and three voters, though each of some has two valid pools.
func badViews() []badView {
	three := votesBy([][3]int{{0, 5, 4}, {1, 5, 2}, {2, 5, 2}})
	one := three[1:2]
	full := plainPool(differentVotes(exampleTree(), 3, impl.MaxVotes))
	bad := []badView{
		{"a frozen vote and no seen one", viewOf(nil, one)},
		{"the first frozen vote is missing", viewOf(three[1:], three)},
		{"the second frozen vote is missing", viewOf([]impl.Vote{three[0], three[2]}, three)},
		{"the last frozen vote is missing", viewOf(three[:2], three)},
		{"the frozen vote is behind the seen ones", viewOf(three[:1], three[1:2])},
		{"the frozen vote is ahead of the seen ones", viewOf(three[1:], three[:1])},
		{"a frozen vote of another Who", viewOf(one, votesBy([][3]int{{2, 5, 2}}))},
		{"a frozen vote of another Slot", viewOf(one, votesBy([][3]int{{1, 6, 2}}))},
		{"a frozen vote for another Block", viewOf(one, votesBy([][3]int{{1, 5, 3}}))},
		{"an equivocation of which one vote is seen", viewOf(one, votesBy([][3]int{{1, 5, 2}, {1, 5, 3}}))},
		{"a full pool that lacks one frozen vote", viewOf(full, []impl.Vote{spareVote})},
		{"two full pools that differ", viewOf(full, plainPool(append(slices.Clone(full[1:]), spareVote)))},
	}
	for k := range full {
		bad = append(bad, badView{"a full frozen pool of which one vote is not seen", viewOf(slices.Delete(slices.Clone(full), k, k+1), full)})
	}
	for _, pool := range badPools() {
		bad = append(bad, badView{"seen: " + pool.why, viewOf(pool.votes, nil)})
		bad = append(bad, badView{"seen: " + pool.why, viewOf(pool.votes, pool.votes[:1])})
		bad = append(bad, badView{"frozen: " + pool.why, viewOf(nil, pool.votes)})
		bad = append(bad, badView{"frozen: " + pool.why, viewOf(pool.votes[:1], pool.votes)})
		bad = append(bad, badView{"both: " + pool.why, viewOf(pool.votes, pool.votes)})
		// All frozen votes may be seen, and yet the frozen ones be no pool; and the other way round.
		bad = append(bad, badView{"frozen: " + pool.why, viewOf(plainPool(pool.votes), pool.votes)})
		bad = append(bad, badView{"seen: " + pool.why, viewOf(pool.votes, plainPool(pool.votes))})
	}
	return bad
}

func checkHeadsAfterRefused(t *testing.T, tree []impl.Block, stakes []int, views []impl.View, p impl.Pool) {
	t.Helper()
	if heads, ok := impl.HeadsAfter(tree, stakes, views, p); len(heads) != 0 || ok {
		t.Errorf("HeadsAfter(%v, %v, %v, %v) = %v, %v", tree, stakes, views, p, heads, ok)
	}
}

// checkUnionRefused expects the zero result of the functions that merge votes into a view.
func checkUnionRefused(t *testing.T, tree []impl.Block, stakes []int, w impl.View, p impl.Pool) {
	t.Helper()
	if x, ok := impl.SeeVotes(tree, stakes, w, p); !isNoView(x) || ok {
		t.Errorf("SeeVotes(%v, %v, %v, %v) = %v, %v", tree, stakes, w, p, x, ok)
	}
	if x, ok := impl.MergeView(tree, stakes, w, p); !isNoView(x) || ok {
		t.Errorf("MergeView(%v, %v, %v, %v) = %v, %v", tree, stakes, w, p, x, ok)
	}
	checkHeadsAfterRefused(t, tree, stakes, []impl.View{w}, p)
}

// checkViewRefused expects the zero result of every function of a view, alone and at each place among empty ones.
func checkViewRefused(t *testing.T, tree []impl.Block, stakes []int, w impl.View) {
	t.Helper()
	if impl.GoodView(tree, stakes, w) {
		t.Errorf("GoodView(%v, %v, %v) is true", tree, stakes, w)
	}
	if x, ok := impl.FreezeView(tree, stakes, w); !isNoView(x) || ok {
		t.Errorf("FreezeView(%v, %v, %v) = %v, %v", tree, stakes, w, x, ok)
	}
	if head, ok := impl.HeadByView(tree, stakes, w); head != 0 || ok {
		t.Errorf("HeadByView(%v, %v, %v) = %d, %v", tree, stakes, w, head, ok)
	}
	for _, p := range []impl.Pool{{}, {Votes: []impl.Vote{{Who: 0, Slot: impl.MaxSlot, Block: 0}}}, w.Seen, w.Frozen} {
		checkUnionRefused(t, tree, stakes, w, p)
		for _, many := range []int{2, mostViews} {
			for at := range many {
				checkHeadsAfterRefused(t, tree, stakes, slices.Insert(make([]impl.View, many-1), at, w), p)
			}
		}
	}
}

// checkShownRefused expects the zero result of every function of a pool beside an empty view, no view and other pools.
func checkShownRefused(t *testing.T, tree []impl.Block, stakes []int, p impl.Pool) {
	t.Helper()
	if x, ok := impl.NewView(tree, stakes, p); !isNoView(x) || ok {
		t.Errorf("NewView(%v, %v, %v) = %v, %v", tree, stakes, p, x, ok)
	}
	for _, many := range []int{0, 1, 2, mostViews} {
		checkHeadsAfterRefused(t, tree, stakes, make([]impl.View, many), p)
	}
	checkUnionRefused(t, tree, stakes, impl.View{}, p)
	for _, other := range []impl.Pool{{}, {Votes: []impl.Vote{{Who: 0, Slot: impl.MaxSlot, Block: 0}}}, {Votes: plainPool(p.Votes)}, p} {
		checkUnionRefused(t, tree, stakes, viewOf(other.Votes, nil), p)
		checkUnionRefused(t, tree, stakes, viewOf(other.Votes, other.Votes), p)
		if is, ok := impl.IsWithin(tree, stakes, p, other); is || ok {
			t.Errorf("IsWithin(%v, %v, %v, %v) = %v, %v", tree, stakes, p, other, is, ok)
		}
		if is, ok := impl.IsWithin(tree, stakes, other, p); is || ok {
			t.Errorf("IsWithin(%v, %v, %v, %v) = %v, %v", tree, stakes, other, p, is, ok)
		}
	}
}

func TestGoodViewCases(t *testing.T) {
	tr, s := exampleTree(), []int{1, 1, 1}
	three := votesBy([][3]int{{0, 5, 4}, {1, 5, 2}, {2, 5, 2}})
	liar := votesBy([][3]int{{1, 5, 2}, {1, 5, 3}})
	full := plainPool(differentVotes(tr, 3, impl.MaxVotes))
	good := []impl.View{
		{}, viewOf([]impl.Vote{}, nil), viewOf(nil, []impl.Vote{}), viewOf(three, nil), viewOf(three, three), viewOf(three, three[:1]), viewOf(three, three[1:2]), viewOf(three, three[2:]),
		viewOf(three, []impl.Vote{three[0], three[2]}), viewOf(liar, liar), viewOf(liar, liar[:1]), viewOf(liar, liar[1:]), viewOf(full, full), viewOf(full, nil), viewOf(full, full[59:]),
	}
	for _, w := range good {
		if !impl.GoodView(tr, s, w) {
			t.Errorf("GoodView(%v) is false", w)
		}
	}
	for _, bad := range badViews() {
		if impl.GoodView(tr, s, bad.view) {
			t.Errorf("GoodView(%v) is true: %s", bad.view, bad.why)
		}
	}
}

// TestGoodViewOfEveryPair: a view is valid exactly if its frozen votes are among the seen ones.
func TestGoodViewOfEveryPair(t *testing.T) {
	pools := smallPools()
	for k, a := range pools {
		for i := k % 5; i < len(pools); i += 5 {
			w := viewOf(plainPool(a.votes), plainPool(pools[i].votes))
			if want := plainWithin(pools[i].votes, a.votes); impl.GoodView(a.tree, a.stakes, w) != want {
				t.Fatalf("GoodView(%v) is not %v", w, want)
			}
		}
	}
}

func TestPromise19InvalidViews(t *testing.T) {
	tr, s := exampleTree(), []int{1, 1, 1}
	for _, bad := range badViews() {
		checkViewRefused(t, tr, s, bad.view)
	}
}

// TestPromise19OneInvalidViewAmongOthers: what another view has seen does not help a view that has not.
func TestPromise19OneInvalidViewAmongOthers(t *testing.T) {
	tr, s := exampleTree(), []int{1, 1, 1}
	three := votesBy([][3]int{{0, 5, 4}, {1, 5, 2}, {2, 5, 2}})
	good := viewOf(three, three)
	for _, bad := range []impl.View{viewOf(nil, three[:1]), viewOf(three[:2], three), viewOf(three[1:], three[:1]), viewOf(three[:1], three[1:2])} {
		for _, p := range []impl.Pool{{}, {Votes: three}, {Votes: three[:1]}} {
			for at := range mostViews {
				checkHeadsAfterRefused(t, tr, s, slices.Insert(slices.Repeat([]impl.View{good}, mostViews-1), at, bad), p)
			}
			checkHeadsAfterRefused(t, tr, s, []impl.View{good, {}, bad}, p)
			checkHeadsAfterRefused(t, tr, s, []impl.View{bad, good}, p)
		}
	}
}

func TestPromise19ViewsOfInvalidShownPools(t *testing.T) {
	tr, s := exampleTree(), []int{1, 1, 1}
	_, views, _, _ := sixViews()
	for _, bad := range badPools() {
		p := impl.Pool{Votes: bad.votes}
		if impl.GoodPool(tr, s, impl.Pool{Votes: plainPool(bad.votes)}) {
			// Its votes are a pool in another order, which a view may have.
			checkUnionRefused(t, tr, s, viewOf(plainPool(bad.votes), nil), p)
		}
		checkShownRefused(t, tr, s, p)
		for many := range mostViews + 1 {
			checkHeadsAfterRefused(t, tr, s, views[:many], p)
		}
		for _, w := range views {
			checkUnionRefused(t, tr, s, w, p)
		}
	}
}

// checkNothingIsSeen expects the zero result of every function for a tree or stakes that are not valid.
func checkNothingIsSeen(t *testing.T, tree []impl.Block, stakes []int) {
	t.Helper()
	votes := plainPool(exampleVotes())
	first := []impl.Vote{{Who: 0, Slot: impl.MaxSlot, Block: 0}}
	for _, w := range []impl.View{{}, viewOf(first, nil), viewOf(first, first), viewOf(votes, nil), viewOf(votes, votes), viewOf(nil, first)} {
		checkViewRefused(t, tree, stakes, w)
	}
	for _, p := range [][]impl.Vote{nil, first, votes} {
		checkShownRefused(t, tree, stakes, impl.Pool{Votes: p})
	}
}

func TestPromise19ViewsOfInvalidTrees(t *testing.T) {
	for _, bad := range badTrees() {
		checkNothingIsSeen(t, bad.tree, []int{1, 1, 1})
	}
}

func TestPromise19ViewsOfInvalidStakes(t *testing.T) {
	for _, stakes := range badStakes() {
		checkNothingIsSeen(t, exampleTree(), stakes)
		checkNothingIsSeen(t, pathTree(1), stakes)
	}
	checkNothingIsSeen(t, nil, nil)
}

// TestPromise19ViewsOfOthers: a view is valid for its own tree and stakes, not for fewer blocks or voters.
func TestPromise19ViewsOfOthers(t *testing.T) {
	tr, s := exampleTree(), []int{1, 1, 1}
	votes := plainPool(exampleVotes())
	for _, w := range []impl.View{viewOf(votes, votes), viewOf(votes, nil)} {
		checkViewRefused(t, tr[:4], s, w)
		checkViewRefused(t, tr, s[:2], w)
		if !impl.GoodView(tr, append(slices.Clone(s), 1), w) {
			t.Errorf("GoodView(%v) with another voter is false", w)
		}
	}
	checkShownRefused(t, tr[:4], s, impl.Pool{Votes: votes})
	checkShownRefused(t, tr, s[:2], impl.Pool{Votes: votes})
}

// TestPromise19ViewsBehindTheLength: what is behind the length of an argument is no vote and no view.
func TestPromise19ViewsBehindTheLength(t *testing.T) {
	for _, c := range someViews() {
		tree, stakes := roomyWith(c.tree, spareBlock(c.tree)), roomy(c.stakes)
		checkViewing(t, viewCase{tree, stakes, roomyWith(c.seen, spareVote), roomyWith(c.frozen, spareVote), roomyWith(c.shown, spareVote)})
	}
	tr := exampleTree()
	s, views, p, want := sixViews()
	for many := range mostViews + 1 {
		// Neither the spare views, of which there are too many, nor their votes count.
		for _, spare := range []impl.View{{}, views[1], viewOf(nil, p.Votes)} {
			if heads, ok := impl.HeadsAfter(tr, s, roomyWith(views[:many], spare), p); !sameList(heads, want[:many]) || !ok {
				t.Errorf("HeadsAfter of %d views = %v, %v, want %v", many, heads, ok, want[:many])
			}
		}
	}
	// The frozen vote would be there, right behind the seen ones.
	votes := plainPool(exampleVotes())
	for k := range votes {
		checkViewRefused(t, tr, s, viewOf(votes[:k], votes[k:k+1]))
		if is, ok := impl.IsWithin(tr, s, impl.Pool{Votes: votes[k : k+1]}, impl.Pool{Votes: votes[:k]}); is || !ok {
			t.Errorf("IsWithin(%v, %v) = %v, %v", votes[k:k+1], votes[:k], is, ok)
		}
	}
}

// keptViews are valid and not valid in every argument.
func keptViews() []viewCase {
	tr, s := exampleTree(), []int{1, 1, 1}
	cases := append(someViews(), unionsAtTheLimit()...)
	votes := plainPool(exampleVotes())
	for _, bad := range badTrees() {
		cases = append(cases, viewCase{bad.tree, s, votes, votes[1:], votes[:2]}, viewCase{tree: bad.tree, stakes: s})
	}
	for _, stakes := range badStakes() {
		cases = append(cases, viewCase{tr, stakes, votes, votes[1:], votes[:2]}, viewCase{tree: tr, stakes: stakes})
	}
	for _, bad := range badViews() {
		cases = append(cases, viewCase{tr, s, bad.view.Seen.Votes, bad.view.Frozen.Votes, votes})
	}
	for _, bad := range badPools() {
		cases = append(cases, viewCase{tr, s, votes, votes[:1], bad.votes})
	}
	return cases
}

func TestPromise19ViewsAreKept(t *testing.T) {
	for _, c := range keptViews() {
		spare := spareBlock(c.tree)
		tree, stakes := roomyWith(c.tree, spare), roomy(c.stakes)
		w, p := viewOf(roomyWith(c.seen, spareVote), roomyWith(c.frozen, spareVote)), impl.Pool{Votes: roomyWith(c.shown, spareVote)}
		views := roomyWith([]impl.View{w, {}, viewOf(w.Seen.Votes, nil)}, viewOf(p.Votes, w.Frozen.Votes))
		kept := func(name string) {
			t.Helper()
			checkKeptWith(t, name, tree, c.tree, spare)
			checkKept(t, name, stakes, c.stakes)
			checkKeptWith(t, name, w.Seen.Votes, c.seen, spareVote)
			checkKeptWith(t, name, w.Frozen.Votes, c.frozen, spareVote)
			checkKeptWith(t, name, p.Votes, c.shown, spareVote)
		}
		impl.GoodView(tree, stakes, w)
		kept("GoodView")
		impl.NewView(tree, stakes, p)
		kept("NewView")
		impl.SeeVotes(tree, stakes, w, p)
		kept("SeeVotes")
		impl.FreezeView(tree, stakes, w)
		kept("FreezeView")
		impl.MergeView(tree, stakes, w, p)
		kept("MergeView")
		impl.HeadByView(tree, stakes, w)
		kept("HeadByView")
		for _, a := range []impl.Pool{w.Seen, w.Frozen, p} {
			for _, b := range []impl.Pool{w.Seen, w.Frozen, p} {
				impl.IsWithin(tree, stakes, a, b)
				kept("IsWithin")
			}
		}
		impl.HeadsAfter(tree, stakes, views, p)
		kept("HeadsAfter")
		was := []impl.View{w, {}, viewOf(w.Seen.Votes, nil), viewOf(p.Votes, w.Frozen.Votes), viewOf(p.Votes, w.Frozen.Votes), viewOf(p.Votes, w.Frozen.Votes)}
		for k, x := range views[:len(views)+3] {
			if !sameView(x, was[k].Seen.Votes, was[k].Frozen.Votes) {
				t.Fatalf("HeadsAfter changed the view %d from %v to %v", k, was[k], x)
			}
		}
	}
}

// checkViewIsNew overwrites the pools of a result one after the other, and then the arguments; nothing else may change.
func checkViewIsNew(t *testing.T, name string, c viewCase, call func(w impl.View, p impl.Pool) (impl.View, bool)) {
	t.Helper()
	w, p := viewOf(roomyWith(c.seen, spareVote), roomyWith(c.frozen, spareVote)), impl.Pool{Votes: roomyWith(c.shown, spareVote)}
	plain, ok := call(c.view(), c.pool())
	if !ok {
		t.Fatalf("%s of %v and %v is refused", name, c.view(), c.pool())
	}
	seen, frozen := slices.Clone(plain.Seen.Votes), slices.Clone(plain.Frozen.Votes)
	first, _ := call(w, p)
	second, _ := call(w, p)
	overwriteVotes(first.Seen.Votes)
	if !slices.Equal(first.Frozen.Votes, frozen) || !sameView(second, seen, frozen) {
		t.Fatalf("the seen votes of %s share memory with another result: %v, %v", name, first, second)
	}
	overwriteVotes(first.Frozen.Votes)
	overwriteVotes(second.Frozen.Votes)
	if !slices.Equal(second.Seen.Votes, seen) {
		t.Fatalf("the frozen votes of %s share memory with another result: %v", name, second)
	}
	checkKeptWith(t, "overwriting the result of "+name, w.Seen.Votes, c.seen, spareVote)
	checkKeptWith(t, "overwriting the result of "+name, w.Frozen.Votes, c.frozen, spareVote)
	checkKeptWith(t, "overwriting the result of "+name, p.Votes, c.shown, spareVote)
	third, _ := call(w, p)
	overwriteVotes(w.Seen.Votes)
	overwriteVotes(w.Frozen.Votes)
	overwriteVotes(p.Votes)
	if !sameView(third, seen, frozen) {
		t.Fatalf("%s = %v shares memory with its arguments, want %v, %v", name, third, seen, frozen)
	}
}

func TestPromise19ViewsAreNew(t *testing.T) {
	for _, c := range append(someViews(), smallViews()...) {
		checkViewIsNew(t, "NewView", c, func(_ impl.View, p impl.Pool) (impl.View, bool) {
			return impl.NewView(c.tree, c.stakes, p)
		})
		checkViewIsNew(t, "SeeVotes", c, func(w impl.View, p impl.Pool) (impl.View, bool) {
			return impl.SeeVotes(c.tree, c.stakes, w, p)
		})
		checkViewIsNew(t, "FreezeView", c, func(w impl.View, _ impl.Pool) (impl.View, bool) {
			return impl.FreezeView(c.tree, c.stakes, w)
		})
		checkViewIsNew(t, "MergeView", c, func(w impl.View, p impl.Pool) (impl.View, bool) {
			return impl.MergeView(c.tree, c.stakes, w, p)
		})
	}
}

func TestPromise19HeadListsAreNew(t *testing.T) {
	tr := exampleTree()
	s, views, p, want := sixViews()
	for many := range mostViews + 1 {
		given := roomyWith(views[:many], impl.View{})
		checkNewFrom(t, "HeadsAfter", s, want[:many], func(stakes []int) []int {
			heads, _ := impl.HeadsAfter(tr, stakes, given, p)
			return heads
		})
		for k, w := range given {
			if !sameView(w, views[k].Seen.Votes, views[k].Frozen.Votes) {
				t.Fatalf("overwriting the result of HeadsAfter changed the view %d to %v", k, w)
			}
		}
	}
}

// TestPromise19OneListInManyPlaces: the pools of a view, the shown one and other views may share their memory.
func TestPromise19OneListInManyPlaces(t *testing.T) {
	for _, c := range slices.Concat(somePools(), spreadPools()) {
		all := roomyWith(plainPool(c.votes), spareVote)
		was := slices.Clone(all)
		w, p := viewOf(all, all), impl.Pool{Votes: all}
		checkViewing(t, viewCase{c.tree, c.stakes, all, all, all})
		checkViewing(t, viewCase{c.tree, c.stakes, all, all[:len(all)/2], all[len(all)/2:]})
		checkViewing(t, viewCase{c.tree, c.stakes, all[len(all)/3:], all[len(all)/2:], all[:len(all)/2]})
		head := plainHeadOf(c.tree, c.stakes, was)
		if heads, ok := impl.HeadsAfter(c.tree, c.stakes, slices.Repeat([]impl.View{w}, mostViews), p); !sameList(heads, repeated(head, mostViews)) || !ok {
			t.Fatalf("HeadsAfter of one view many times = %v, %v, want %d", heads, ok, head)
		}
		x, okSee := impl.SeeVotes(c.tree, c.stakes, w, p)
		m, okMerge := impl.MergeView(c.tree, c.stakes, w, p)
		f, okFreeze := impl.FreezeView(c.tree, c.stakes, w)
		n, okNew := impl.NewView(c.tree, c.stakes, p)
		for _, pool := range []impl.Pool{x.Seen, x.Frozen, m.Seen, m.Frozen, f.Seen, f.Frozen, n.Seen, n.Frozen} {
			if !slices.Equal(pool.Votes, was) || !okSee || !okMerge || !okFreeze || !okNew {
				t.Fatalf("the views of %v are %v, %v, %v, %v", was, x, m, f, n)
			}
			overwriteVotes(pool.Votes)
		}
		checkKeptWith(t, "overwriting the views", all, was, spareVote)
	}
}

// TestViewCallsAtTheSameTime: no set of one call shows in another one, whether it comes before, after or at the same time.
func TestViewCallsAtTheSameTime(t *testing.T) {
	tr := exampleTree()
	s, views, p, want := sixViews()
	bad := viewOf(nil, p.Votes)
	var wait sync.WaitGroup
	for at := range mostViews {
		wait.Go(func() {
			for range 200 {
				if heads, ok := impl.HeadsAfter(tr, s, views, p); !sameList(heads, want) || !ok {
					t.Errorf("HeadsAfter = %v, %v, want %v", heads, ok, want)
				}
				broken := slices.Clone(views)
				broken[at] = bad
				checkHeadsAfterRefused(t, tr, s, broken, p)
				if is, ok := impl.IsWithin(tr, s, p, views[at].Seen); is != plainWithin(p.Votes, views[at].Seen.Votes) || !ok {
					t.Errorf("IsWithin(%v, %v) = %v, %v", p, views[at].Seen, is, ok)
				}
			}
		})
	}
	wait.Wait()
}
