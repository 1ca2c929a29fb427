package tests

import (
	"math"
	"slices"
	"testing"

	"loop.example/g00564/impl"
)

// The tests below hold the depths that a link spans against those of another link one by one, from the document's words.

// lyingLinks are those of the examples of this chapter.
func lyingLinks() []impl.Link {
	return linksBy([][3]int{{0, 0, 1}, {1, 0, 1}, {0, 1, 3}, {1, 1, 3}, {1, 0, 2}, {2, 0, 2}, {1, 2, 4}, {2, 2, 4}})
}

// plainSpan returns the depths from that of From to that of To.
func plainSpan(tree []impl.Block, l impl.Link) []int {
	var span []int
	for depth := plainDepth(tree, l.From); depth <= plainDepth(tree, l.To); depth++ {
		span = append(span, depth)
	}
	return span
}

// isInside reports whether every depth of a span lies between the first and the last one of the other span.
func isInside(inner []int, outer []int) bool {
	return !slices.ContainsFunc(inner, func(depth int) bool {
		return !slices.Contains(outer[1:len(outer)-1], depth)
	})
}

// plainLieOf has the depths beside the links, so that many pairs share them.
func plainLieOf(a impl.Link, spanA []int, b impl.Link, spanB []int) bool {
	sameTo := spanA[len(spanA)-1] == spanB[len(spanB)-1]
	differs := a.From != b.From || a.To != b.To
	return a.Who == b.Who && differs && (sameTo || isInside(spanA, spanB) || isInside(spanB, spanA))
}

func plainIsLie(tree []impl.Block, a impl.Link, b impl.Link) bool {
	return plainLieOf(a, plainSpan(tree, a), b, plainSpan(tree, b))
}

// plainSpansOf returns the span of each link of a list.
func plainSpansOf(tree []impl.Block, links []impl.Link) [][]int {
	var spans [][]int
	for _, l := range links {
		spans = append(spans, plainSpan(tree, l))
	}
	return spans
}

func plainLies(c linkCase) []impl.Proof {
	var lies []impl.Proof
	spans := plainSpansOf(c.tree, c.links)
	for k := range len(c.links) * len(c.links) {
		first, second := k/len(c.links), k%len(c.links)
		if first < second && plainLieOf(c.links[first], spans[first], c.links[second], spans[second]) {
			lies = append(lies, impl.Proof{One: c.links[first], Two: c.links[second]})
		}
	}
	return lies
}

func plainLiarsBy(c linkCase) []int {
	var liars []int
	lies := plainLies(c)
	for voter := range c.stakes {
		if slices.ContainsFunc(lies, func(p impl.Proof) bool { return p.One.Who == voter || p.Two.Who == voter }) {
			liars = append(liars, voter)
		}
	}
	return liars
}

func plainMayLink(c linkCase, x impl.Link) bool {
	for _, l := range c.links {
		if plainIsLie(c.tree, l, x) {
			return false
		}
	}
	return true
}

func plainClean(c linkCase) []impl.Link {
	taken := linkCase{c.tree, c.stakes, nil}
	for _, l := range c.links {
		if plainMayLink(taken, l) {
			taken.links = append(taken.links, l)
		}
	}
	return taken.links
}

// scatteredLinks draws the voter and the blocks of each link apart; some links are there twice.
func scatteredLinks(tree []impl.Block, voters int, many int, seed int) []impl.Link {
	pairs := linkablePairs(tree)
	if len(pairs) == 0 {
		return nil
	}
	var links []impl.Link
	draw := drawnNumbers(3*many, math.MaxInt32, seed)
	for k := range many {
		pair := pairs[draw[3*k]%len(pairs)]
		links = append(links, impl.Link{Who: draw[3*k+1] % voters, From: pair[0], To: pair[1]})
		if draw[3*k+2]%6 == 0 {
			links[k] = links[draw[3*k+2]%(k+1)]
		}
	}
	return links
}

// someProofs has lists without a lie, with a few and with many of them.
func someProofs() []linkCase {
	cases := append(someLinks(), linkCase{forkTree(), []int{1, 1, 1}, lyingLinks()})
	for k, c := range forkedLinks() {
		if k%9 == 0 {
			cases = append(cases, c)
		}
	}
	for seed, tree := range someTrees() {
		for k, stakes := range [][]int{{7}, {1, 2}, {1, 1, 1}, {9, 2, 5, 3, 3}, repeated(impl.MaxStake, impl.MaxVoters)} {
			many := (seed*7 + k*13 + 3) % (impl.MaxLinks + 1)
			cases = append(cases, linkCase{tree, stakes, scatteredLinks(tree, len(stakes), many, seed*7+k+1)})
		}
	}
	return cases
}

// checkProofs expects of the links what the document's words say of them.
func checkProofs(t *testing.T, c linkCase) {
	t.Helper()
	lies := plainLies(c)
	if l, ok := impl.LiesIn(c.tree, c.stakes, c.links); !slices.Equal(l, lies) || !ok {
		t.Fatalf("LiesIn(%v, %v, %v) = %v, %v, want %v", c.tree, c.stakes, c.links, l, ok, lies)
	}
	liars := plainLiarsBy(c)
	if l, ok := impl.LiarsBy(c.tree, c.stakes, c.links); !sameList(l, liars) || !ok {
		t.Fatalf("LiarsBy(%v, %v, %v) = %v, %v, want %v", c.tree, c.stakes, c.links, l, ok, liars)
	}
	lost := plainWeight(c.stakes, liars)
	if n, ok := impl.StakeLost(c.tree, c.stakes, c.links); n != lost || !ok {
		t.Fatalf("StakeLost(%v, %v, %v) = %d, %v, want %d", c.tree, c.stakes, c.links, n, ok, lost)
	}
	clean := plainClean(c)
	if l, ok := impl.CleanLinks(c.tree, c.stakes, c.links); !slices.Equal(l, clean) || !ok {
		t.Fatalf("CleanLinks(%v, %v, %v) = %v, %v, want %v", c.tree, c.stakes, c.links, l, ok, clean)
	}
}

// checkIsLie expects the same answer whichever of the two links comes first.
func checkIsLie(t *testing.T, tree []impl.Block, a impl.Link, b impl.Link, want bool) {
	t.Helper()
	for _, p := range []impl.Proof{{One: a, Two: b}, {One: b, Two: a}} {
		if is, ok := impl.IsLie(tree, p.One, p.Two); is != want || !ok {
			t.Fatalf("IsLie(%v, %v, %v) = %v, %v, want %v", tree, p.One, p.Two, is, ok, want)
		}
		if is, ok := impl.CheckProof(tree, p); is != want || !ok {
			t.Fatalf("CheckProof(%v, %v) = %v, %v, want %v", tree, p, is, ok, want)
		}
	}
}

func checkMayLink(t *testing.T, c linkCase, x impl.Link, want bool) {
	t.Helper()
	if may, ok := impl.MayLink(c.tree, c.stakes, c.links, x); may != want || !ok {
		t.Fatalf("MayLink(%v, %v, %v, %v) = %v, %v, want %v", c.tree, c.stakes, c.links, x, may, ok, want)
	}
}

func TestProofExamples(t *testing.T) {
	tr, s, l := forkTree(), []int{1, 1, 1}, lyingLinks()
	if a, b, ok := impl.ConflictIn(tr, s, l); a != 1 || b != 2 || !ok {
		t.Error("ConflictIn", a, b, ok)
	}
	if is, ok := impl.IsLie(tr, l[0], l[2]); is || !ok {
		t.Error("IsLie", is, ok)
	}
	lies, ok := impl.LiesIn(tr, s, l)
	if !slices.Equal(lies, []impl.Proof{{One: l[1], Two: l[4]}, {One: l[3], Two: l[6]}}) || !ok {
		t.Fatal("LiesIn", lies, ok)
	}
	if is, ok := impl.CheckProof(tr, lies[1]); !is || !ok {
		t.Error("CheckProof", is, ok)
	}
	if who, ok := impl.LiarsBy(tr, s, l); !sameList(who, []int{1}) || !ok {
		t.Error("LiarsBy", who, ok)
	}
	if n, ok := impl.StakeLost(tr, s, l); n != 1 || !ok {
		t.Error("StakeLost", n, ok)
	}
	if may, ok := impl.MayLink(tr, s, l[:2], l[4]); may || !ok {
		t.Error("MayLink", may, ok)
	}
	if c, ok := impl.CleanLinks(tr, s, l); !slices.Equal(c, linksBy([][3]int{{0, 0, 1}, {1, 0, 1}, {0, 1, 3}, {1, 1, 3}, {2, 0, 2}, {2, 2, 4}})) || !ok {
		t.Error("CleanLinks", c, ok)
	}
}

// TestLieOfEveryPair looks at every pair of links of one voter, and at some of them with different voters.
func TestLieOfEveryPair(t *testing.T) {
	same, around, apart := 0, 0, 0
	for _, tree := range someTrees() {
		links := linksAlong(linkablePairs(tree)...)
		spans := plainSpansOf(tree, links)
		// Of the trees with many links, pairs at some distances are enough.
		step := 1 + len(links)/100
		for i, a := range links {
			for k := i; k < len(links); k += step {
				b := links[k]
				want := plainLieOf(a, spans[i], b, spans[k])
				checkIsLie(t, tree, a, b, want)
				switch sameTo := spans[i][len(spans[i])-1] == spans[k][len(spans[k])-1]; {
				case want && sameTo:
					same++
				case want:
					around++
				default:
					apart++
				}
				if (i+k)%7 == 0 {
					b.Who = 1 + (i+k)%(impl.MaxVoters-1)
					checkIsLie(t, tree, a, b, false)
				}
			}
		}
	}
	if same < 1000 || around < 1000 || apart < 1000 {
		t.Errorf("only %d pairs to one depth, %d that surround and %d that are no lie", same, around, apart)
	}
}

// TestSurroundCases: a surround vote strictly contains the other one, on one branch or on two.
func TestSurroundCases(t *testing.T) {
	// Blocks 0 to 5 are a path, and 6 to 10 are a second one from block 0 on; block b of the one is as deep as block b+5 of the other.
	tree := treeBy(11, func(b int) int { return []int{0, 0, 1, 2, 3, 4, 0, 6, 7, 8, 9}[b] })
	cases := []struct {
		name string
		a, b [2]int
		lie  bool
	}{
		{"From less deep and To deeper", [2]int{0, 3}, [2]int{1, 2}, true},
		{"From less deep and To deeper, by more than 1", [2]int{0, 5}, [2]int{2, 3}, true},
		{"From less deep and To deeper, not from block 0", [2]int{1, 5}, [2]int{2, 4}, true},
		{"From less deep and To deeper, on the other branch", [2]int{0, 3}, [2]int{6, 7}, true},
		{"From less deep and To deeper, by 1 at each end on the other branch", [2]int{6, 10}, [2]int{2, 4}, true},
		{"equal From", [2]int{0, 3}, [2]int{0, 2}, false},
		{"equal From, one step", [2]int{1, 2}, [2]int{1, 5}, false},
		{"From of equal depth on the other branch", [2]int{1, 5}, [2]int{6, 8}, false},
		{"equal From on the other branch", [2]int{0, 5}, [2]int{0, 6}, false},
		{"equal To", [2]int{0, 3}, [2]int{1, 3}, true},
		{"To of equal depth on the other branch", [2]int{0, 3}, [2]int{6, 8}, true},
		{"To of equal depth and From of equal depth on the other branch", [2]int{1, 3}, [2]int{6, 8}, true},
		{"equal From, and To of equal depth on the other branch", [2]int{0, 4}, [2]int{0, 9}, true},
		{"one after the other", [2]int{0, 2}, [2]int{2, 4}, false},
		{"one after the other on the other branch", [2]int{0, 2}, [2]int{7, 9}, false},
		{"one after the other with a gap", [2]int{0, 1}, [2]int{3, 5}, false},
		{"overlapping", [2]int{0, 3}, [2]int{1, 4}, false},
		{"overlapping by one depth", [2]int{0, 3}, [2]int{2, 5}, false},
		{"overlapping on the other branch", [2]int{1, 4}, [2]int{7, 10}, false},
		{"the same link", [2]int{1, 4}, [2]int{1, 4}, false},
	}
	for _, c := range cases {
		links := linksAlong(c.a, c.b)
		for _, who := range []int{0, 1, impl.MaxVoters - 1} {
			a, b := links[0], links[1]
			a.Who, b.Who = who, who
			checkIsLie(t, tree, a, b, c.lie)
			checkMayLink(t, linkCase{tree, repeated(2, impl.MaxVoters), []impl.Link{a}}, b, !c.lie)
			checkMayLink(t, linkCase{tree, repeated(2, impl.MaxVoters), []impl.Link{b}}, a, !c.lie)
			b.Who = (who + 1) % impl.MaxVoters
			checkIsLie(t, tree, a, b, false)
		}
		lies := 0
		if c.lie {
			lies = 1
		}
		if l, ok := impl.LiesIn(tree, []int{1}, links); len(l) != lies || !ok {
			t.Errorf("%s: LiesIn(%v) = %v, %v", c.name, links, l, ok)
		}
		checkProofs(t, linkCase{tree, []int{1}, links})
	}
}

// TestEqualDepthsDoNotSurround moves one end of a link past the ends of another one, and says at each depth what is a lie.
func TestEqualDepthsDoNotSurround(t *testing.T) {
	path := pathTree(impl.MaxBlocks)
	inner := impl.Link{From: 8, To: 12}
	for b := range path {
		if b < 20 {
			// From 8 on, the From is as deep as the other one or deeper.
			checkIsLie(t, path, impl.Link{From: b, To: 20}, inner, b < 8)
		}
		if b > 3 {
			// A To of depth 12 is the same block; up to 11 the To is less deep.
			checkIsLie(t, path, impl.Link{From: 3, To: b}, inner, b >= 12)
		}
		if b > 8 {
			checkIsLie(t, path, impl.Link{From: 8, To: b}, inner, false)
		}
		if b < 12 {
			checkIsLie(t, path, impl.Link{From: b, To: 12}, inner, b != 8)
		}
		if b > 9 {
			// Below the From of the other link, a link that ends ahead of its To is surrounded.
			checkIsLie(t, path, impl.Link{From: 9, To: b}, inner, b <= 12)
		}
	}
}

func TestLinksToOneDepth(t *testing.T) {
	tree := treeBy(9, func(b int) int { return []int{0, 0, 0, 1, 1, 2, 3, 5, 4}[b] })
	cases := []struct {
		name string
		a, b impl.Link
		lie  bool
	}{
		{"two children", impl.Link{Who: 4, From: 0, To: 1}, impl.Link{Who: 4, From: 0, To: 2}, true},
		{"two children of different voters", impl.Link{Who: 4, From: 0, To: 1}, impl.Link{Who: 5, From: 0, To: 2}, false},
		{"two siblings from their parent", impl.Link{From: 1, To: 3}, impl.Link{From: 1, To: 4}, true},
		{"two siblings from different blocks", impl.Link{From: 1, To: 3}, impl.Link{From: 0, To: 4}, true},
		{"two cousins", impl.Link{From: 1, To: 6}, impl.Link{From: 5, To: 7}, true},
		{"the same block from different ones", impl.Link{Who: 2, From: 0, To: 6}, impl.Link{Who: 2, From: 3, To: 6}, true},
		{"the same block from different ones, of different voters", impl.Link{Who: 2, From: 0, To: 6}, impl.Link{Who: 0, From: 3, To: 6}, false},
		{"two equal links", impl.Link{Who: 2, From: 0, To: 6}, impl.Link{Who: 2, From: 0, To: 6}, false},
		{"two equal links of different voters", impl.Link{Who: 2, From: 0, To: 6}, impl.Link{Who: 3, From: 0, To: 6}, false},
	}
	for _, c := range cases {
		if is, ok := impl.IsLie(tree, c.a, c.b); is != c.lie || !ok {
			t.Errorf("%s: IsLie(%v, %v) = %v, %v", c.name, c.a, c.b, is, ok)
		}
		checkIsLie(t, tree, c.a, c.b, c.lie)
		stakes := repeated(3, 6)
		checkMayLink(t, linkCase{tree, stakes, []impl.Link{c.a}}, c.b, !c.lie)
		if l, ok := impl.CleanLinks(tree, stakes, []impl.Link{c.a, c.b}); (len(l) == 1) != c.lie || l[0] != c.a || !ok {
			t.Errorf("%s: CleanLinks(%v, %v) = %v, %v", c.name, c.a, c.b, l, ok)
		}
	}
}

// TestLiesOfEveryVoter: any voter that some stakes could have may lie, also one that the stakes of MayLink do not have.
func TestLiesOfEveryVoter(t *testing.T) {
	tr, all := forkTree(), repeated(1, impl.MaxVoters)
	for who := range impl.MaxVoters {
		a, b := impl.Link{Who: who, From: 0, To: 1}, impl.Link{Who: who, From: 0, To: 2}
		checkIsLie(t, tr, a, b, true)
		for other := range impl.MaxVoters {
			checkIsLie(t, tr, a, impl.Link{Who: other, From: 0, To: 2}, other == who)
		}
		checkMayLink(t, linkCase{tr, all, []impl.Link{a}}, b, false)
		for voters := 1; voters <= impl.MaxVoters; voters++ {
			links := linksOf(blocksOf(pathTree(voters)), 0, 1)
			checkMayLink(t, linkCase{tr, all[:voters], links}, b, who >= voters)
			checkMayLink(t, linkCase{tr, all[:voters], links}, a, true)
			checkMayLink(t, linkCase{tr, all[:voters], nil}, b, true)
		}
	}
}

func TestProofsOfEveryCase(t *testing.T) {
	none, some, omitted := 0, 0, 0
	for _, c := range someProofs() {
		checkProofs(t, c)
		lies, _ := impl.LiesIn(c.tree, c.stakes, c.links)
		clean, _ := impl.CleanLinks(c.tree, c.stakes, c.links)
		if len(lies) == 0 {
			none++
		} else {
			some++
		}
		if len(clean) > 1 && len(clean) < len(c.links) {
			omitted++
		}
	}
	if none < 50 || some < 100 || omitted < 100 {
		t.Errorf("only %d lists without a lie, %d with lies, %d shortened", none, some, omitted)
	}
}

func TestProofsOfEverySmallCase(t *testing.T) {
	for k, c := range smallLinks() {
		if k%3 == 0 {
			checkProofs(t, c)
		}
	}
}

// TestProofsAreAllLies uses the package alone: each proof checks, and two links without a proof are no lie.
func TestProofsAreAllLies(t *testing.T) {
	for _, c := range someProofs() {
		lies, ok := impl.LiesIn(c.tree, c.stakes, c.links)
		if !ok {
			t.Fatal(c)
		}
		for _, p := range lies {
			if is, ok := impl.CheckProof(c.tree, p); !is || !ok || p.One.Who != p.Two.Who || p.One == p.Two {
				t.Fatalf("CheckProof(%v, %v) = %v, %v", c.tree, p, is, ok)
			}
		}
		at := 0
		for i, one := range c.links {
			for _, two := range c.links[i+1:] {
				if is, _ := impl.IsLie(c.tree, one, two); !is {
					continue
				}
				if at == len(lies) || lies[at] != (impl.Proof{One: one, Two: two}) {
					t.Fatalf("LiesIn(%v, %v, %v) = %v, but proof %d is of %v and %v", c.tree, c.stakes, c.links, lies, at, one, two)
				}
				at++
			}
		}
		if at != len(lies) {
			t.Fatalf("LiesIn(%v, %v, %v) = %v, want %d of them", c.tree, c.stakes, c.links, lies, at)
		}
	}
}

// TestOrderOfLies gives each proof by the indexes of its links.
func TestOrderOfLies(t *testing.T) {
	// Block 0 has the children 1 and 2; below 1 is a path of 3, 4 and 5.
	tree := treeBy(6, func(b int) int { return []int{0, 0, 0, 1, 3, 4}[b] })
	a, b, c := impl.Link{From: 0, To: 1}, impl.Link{From: 0, To: 2}, impl.Link{From: 1, To: 3}
	far, other := impl.Link{From: 0, To: 5}, impl.Link{Who: 1, From: 0, To: 2}
	cases := []struct {
		name  string
		links []impl.Link
		want  [][2]int
	}{
		{"no link", nil, nil},
		{"one link", []impl.Link{a}, nil},
		{"two equal links", []impl.Link{a, a}, nil},
		{"one lie", []impl.Link{a, b}, [][2]int{{0, 1}}},
		{"one lie the other way round", []impl.Link{b, a}, [][2]int{{0, 1}}},
		{"equal links ahead of the third one", []impl.Link{a, a, b}, [][2]int{{0, 2}, {1, 2}}},
		{"equal links around the third one", []impl.Link{a, b, a}, [][2]int{{0, 1}, {1, 2}}},
		{"equal links after the third one", []impl.Link{b, a, a}, [][2]int{{0, 1}, {0, 2}}},
		{"two and two equal links", []impl.Link{a, b, b, a}, [][2]int{{0, 1}, {0, 2}, {1, 3}, {2, 3}}},
		{"three equal links and the third one", []impl.Link{a, a, b, a}, [][2]int{{0, 2}, {1, 2}, {2, 3}}},
		{"the surrounding link first", []impl.Link{far, c, a}, [][2]int{{0, 1}}},
		{"the surrounding link last", []impl.Link{a, c, far}, [][2]int{{1, 2}}},
		{"equal surrounded links", []impl.Link{c, far, b, c, a}, [][2]int{{0, 1}, {1, 3}, {2, 4}}},
		{"two voters in turn", []impl.Link{other, a, b, {Who: 1, From: 0, To: 1}}, [][2]int{{0, 3}, {1, 2}}},
		{"one voter within the other", []impl.Link{a, other, {Who: 1, From: 0, To: 1}, b}, [][2]int{{0, 3}, {1, 2}}},
		{"links of another voter alone", []impl.Link{a, other, other, c}, nil},
	}
	for _, x := range cases {
		var want []impl.Proof
		for _, at := range x.want {
			want = append(want, impl.Proof{One: x.links[at[0]], Two: x.links[at[1]]})
		}
		if l, ok := impl.LiesIn(tree, []int{4, 5}, x.links); !slices.Equal(l, want) || !ok {
			t.Errorf("%s: LiesIn(%v) = %v, %v, want %v", x.name, x.links, l, ok, want)
		}
		checkProofs(t, linkCase{tree, []int{4, 5}, x.links})
	}
}

// TestManyLies has as many proofs as MaxLinks links of one voter can have.
func TestManyLies(t *testing.T) {
	arms := treeBy(21, func(b int) int { return max(b-2, 0) })
	// The last blocks of both arms are of one depth, and ten blocks are above each of them.
	var links []impl.Link
	for _, pair := range linkablePairs(arms) {
		if pair[1] >= 19 {
			links = append(links, impl.Link{From: pair[0], To: pair[1]})
		}
	}
	if len(links) != 20 {
		t.Fatal(links)
	}
	if l, ok := impl.LiesIn(arms, []int{1}, links); len(l) != 190 || !ok {
		t.Error(len(l), ok)
	}
	twice := append(slices.Clone(links), links...)
	if l, ok := impl.LiesIn(arms, []int{1}, twice); len(l) != 780-20 || !ok {
		t.Error(len(l), ok)
	}
	if l, ok := impl.CleanLinks(arms, []int{1}, twice); !slices.Equal(l, []impl.Link{links[0], links[0]}) || !ok {
		t.Error(l, ok)
	}
	checkProofs(t, linkCase{arms, []int{1}, twice})
}

func TestLiarsAndTheirStakes(t *testing.T) {
	tree := starTree(6)
	cases := []struct {
		name   string
		stakes []int
		links  []impl.Link
		liars  []int
		lost   int
	}{
		{"no link", []int{5, 7, 11}, nil, nil, 0},
		{"no lie", []int{5, 7, 11}, linksBy([][3]int{{0, 0, 1}, {1, 0, 2}, {2, 0, 3}}), nil, 0},
		{"equal links alone", []int{5, 7, 11}, linksBy([][3]int{{1, 0, 1}, {1, 0, 1}, {1, 0, 1}}), nil, 0},
		{"one proof", []int{5, 7, 11}, linksBy([][3]int{{1, 0, 1}, {1, 0, 2}}), []int{1}, 7},
		{"three proofs of one voter", []int{5, 7, 11}, linksBy([][3]int{{2, 0, 1}, {2, 0, 2}, {2, 0, 3}}), []int{2}, 11},
		{"ten proofs of one voter beside an honest one", []int{5, 7, 11}, linksBy([][3]int{{0, 0, 1}, {0, 0, 2}, {1, 0, 2}, {0, 0, 3}, {0, 0, 4}, {0, 0, 5}}), []int{0}, 5},
		{"two voters, the later one first", []int{5, 7, 11}, linksBy([][3]int{{2, 0, 1}, {2, 0, 2}, {0, 0, 3}, {0, 0, 4}}), []int{0, 2}, 16},
		{"two voters in turn with several proofs each", []int{5, 7, 11}, linksBy([][3]int{{2, 0, 1}, {1, 0, 1}, {2, 0, 2}, {1, 0, 2}, {2, 0, 3}, {1, 0, 3}}), []int{1, 2}, 18},
		{"all voters", []int{5, 7, 11}, linksBy([][3]int{{2, 0, 1}, {1, 0, 1}, {0, 0, 1}, {1, 0, 2}, {0, 0, 2}, {2, 0, 2}}), []int{0, 1, 2}, 23},
		{"the same proof twice", []int{5, 7, 11}, linksBy([][3]int{{1, 0, 1}, {1, 0, 2}, {1, 0, 1}}), []int{1}, 7},
		{"the last of MaxVoters", []int{1, 1, 1, 1, 1, 1, 1, 1, 1, 1000}, linksBy([][3]int{{9, 0, 1}, {9, 0, 2}}), []int{9}, 1000},
	}
	for _, c := range cases {
		if l, ok := impl.LiarsBy(tree, c.stakes, c.links); !sameList(l, c.liars) || !ok {
			t.Errorf("%s: LiarsBy(%v) = %v, %v, want %v", c.name, c.links, l, ok, c.liars)
		}
		if n, ok := impl.StakeLost(tree, c.stakes, c.links); n != c.lost || !ok {
			t.Errorf("%s: StakeLost(%v) = %d, %v, want %d", c.name, c.links, n, ok, c.lost)
		}
	}
}

// TestStakeLostOfEveryGroup lets each group of ten voters lie, among them nobody and everybody.
func TestStakeLostOfEveryGroup(t *testing.T) {
	stakes := []int{1, 2, 4, 8, 16, 32, 64, 128, 256, 512}
	for lost, group := range groupsUpTo(len(stakes)) {
		links := append(linksOf([]int{0, 1, 2, 3, 4, 5, 6, 7, 8, 9}, 0, 2), linksOf(group, 0, 1)...)
		slices.Reverse(links)
		if l, ok := impl.LiarsBy(starTree(3), stakes, links); !sameList(l, group) || !ok {
			t.Fatalf("LiarsBy(%v) = %v, %v, want %v", links, l, ok, group)
		}
		// The group at index k of the list has the voters of the bits of k.
		if n, ok := impl.StakeLost(starTree(3), stakes, links); n != lost || !ok {
			t.Fatalf("StakeLost(%v) = %d, %v, want %d", links, n, ok, lost)
		}
	}
	everybody := slices.Concat(linksOf([]int{0, 1, 2, 3, 4, 5, 6, 7, 8, 9}, 0, 1), linksOf([]int{9, 8, 7, 6, 5, 4, 3, 2, 1, 0}, 0, 2))
	if n, ok := impl.StakeLost(starTree(3), repeated(impl.MaxStake, impl.MaxVoters), everybody); n != 10000 || !ok {
		t.Error("StakeLost", n, ok)
	}
}

// TestMayLinkOfEveryCase asks for every link that the tree permits, of a voter of the stakes and of one beyond them.
func TestMayLinkOfEveryCase(t *testing.T) {
	may, not := 0, 0
	for k, c := range someProofs() {
		for i, pair := range linkablePairs(c.tree) {
			if len(c.tree) > 8 && i%11 != k%11 {
				continue
			}
			for _, who := range []int{(i + k) % len(c.stakes), (i + k) % impl.MaxVoters} {
				x := impl.Link{Who: who, From: pair[0], To: pair[1]}
				want := plainMayLink(c, x)
				checkMayLink(t, c, x, want)
				if want {
					may++
				} else {
					not++
				}
			}
		}
		// A link that is there already may be made exactly if it is in no proof.
		lies, _ := impl.LiesIn(c.tree, c.stakes, c.links)
		for _, l := range c.links {
			checkMayLink(t, c, l, !slices.ContainsFunc(lies, func(p impl.Proof) bool { return p.One == l || p.Two == l }))
		}
	}
	if may < 1000 || not < 1000 {
		t.Errorf("only %d links that may be made and %d that may not", may, not)
	}
}

// TestMayLinkByEveryLink: the link that is violated may stand anywhere in the list, also in one of MaxLinks links.
func TestMayLinkByEveryLink(t *testing.T) {
	tr, s := forkTree(), []int{1, 1, 1}
	x := impl.Link{Who: 2, From: 0, To: 2}
	for many := 1; many <= impl.MaxLinks; many++ {
		for at := range many {
			links := slices.Repeat(linksBy([][3]int{{1, 0, 1}}), many)
			checkMayLink(t, linkCase{tr, s, links}, x, true)
			links[at].Who = 2
			checkMayLink(t, linkCase{tr, s, links}, x, false)
		}
	}
}

func TestCleanLinkCases(t *testing.T) {
	// Block 0 has the children 1 and 2; below 1 is a path of 3, 4 and 5.
	tree := treeBy(6, func(b int) int { return []int{0, 0, 0, 1, 3, 4}[b] })
	cases := []struct {
		name  string
		links []impl.Link
		taken []int
	}{
		{"no link", nil, nil},
		{"one link", linksAlong([2]int{0, 5}), []int{0}},
		{"a chain", linksAlong([2]int{0, 1}, [2]int{1, 3}, [2]int{3, 4}), []int{0, 1, 2}},
		{"a chain backwards", linksAlong([2]int{3, 4}, [2]int{1, 3}, [2]int{0, 1}), []int{0, 1, 2}},
		{"two to one depth", linksAlong([2]int{0, 1}, [2]int{0, 2}), []int{0}},
		{"two to one depth the other way round", linksAlong([2]int{0, 2}, [2]int{0, 1}), []int{0}},
		{"equal links", linksAlong([2]int{0, 1}, [2]int{0, 1}, [2]int{0, 1}), []int{0, 1, 2}},
		{"equal links around another one", linksAlong([2]int{0, 1}, [2]int{0, 2}, [2]int{0, 1}), []int{0, 2}},
		{"equal links that are omitted", linksAlong([2]int{0, 1}, [2]int{0, 2}, [2]int{0, 2}), []int{0}},
		// The link to 5 lies with the first one alone, and those after it with the link to 5 alone.
		{"a lie with an omitted link alone", linksAlong([2]int{1, 3}, [2]int{0, 5}, [2]int{3, 4}), []int{0, 2}},
		{"two lies with an omitted link alone", linksAlong([2]int{1, 3}, [2]int{0, 5}, [2]int{3, 4}, [2]int{4, 5}), []int{0, 2, 3}},
		{"the surrounding link first", linksAlong([2]int{0, 5}, [2]int{1, 3}, [2]int{3, 4}), []int{0}},
		{"the surrounding link last", linksAlong([2]int{1, 3}, [2]int{3, 4}, [2]int{0, 5}), []int{0, 1}},
		{"of two voters", linksBy([][3]int{{0, 0, 1}, {1, 0, 2}, {0, 0, 2}, {1, 0, 1}}), []int{0, 1}},
		{"of two voters, each with an omitted link", linksBy([][3]int{{0, 0, 5}, {1, 1, 3}, {0, 1, 3}, {1, 0, 5}, {1, 3, 4}, {0, 3, 4}, {0, 0, 1}}), []int{0, 1, 4, 6}},
	}
	for _, c := range cases {
		var want []impl.Link
		for _, at := range c.taken {
			want = append(want, c.links[at])
		}
		if l, ok := impl.CleanLinks(tree, []int{1, 1}, c.links); !slices.Equal(l, want) || !ok {
			t.Errorf("%s: CleanLinks(%v) = %v, %v, want %v", c.name, c.links, l, ok, want)
		}
		checkProofs(t, linkCase{tree, []int{1, 1}, c.links})
	}
}

// TestCleanLinksAreTakenOneByOne uses the package alone: a link is taken exactly if it may be made after those taken before.
func TestCleanLinksAreTakenOneByOne(t *testing.T) {
	for _, c := range someProofs() {
		clean, okClean := impl.CleanLinks(c.tree, c.stakes, c.links)
		var taken []impl.Link
		for _, l := range c.links {
			may, ok := impl.MayLink(c.tree, c.stakes, taken, l)
			if !ok {
				t.Fatal(c, l)
			}
			if may {
				taken = append(taken, l)
			}
		}
		if !slices.Equal(clean, taken) || !okClean {
			t.Fatalf("CleanLinks(%v, %v, %v) = %v, %v, but MayLink takes %v", c.tree, c.stakes, c.links, clean, okClean, taken)
		}
		checkNoLie(t, linkCase{c.tree, c.stakes, clean})
	}
}

// checkNoLie uses the package alone: the links prove no violation.
func checkNoLie(t *testing.T, c linkCase) {
	t.Helper()
	if l, ok := impl.LiesIn(c.tree, c.stakes, c.links); len(l) != 0 || !ok {
		t.Fatalf("LiesIn(%v, %v, %v) = %v, %v", c.tree, c.stakes, c.links, l, ok)
	}
	if l, ok := impl.LiarsBy(c.tree, c.stakes, c.links); len(l) != 0 || !ok {
		t.Fatalf("LiarsBy(%v, %v, %v) = %v, %v", c.tree, c.stakes, c.links, l, ok)
	}
	if n, ok := impl.StakeLost(c.tree, c.stakes, c.links); n != 0 || !ok {
		t.Fatalf("StakeLost(%v, %v, %v) = %d, %v", c.tree, c.stakes, c.links, n, ok)
	}
	if l, ok := impl.CleanLinks(c.tree, c.stakes, c.links); !slices.Equal(l, c.links) || !ok {
		t.Fatalf("CleanLinks(%v, %v, %v) = %v, %v", c.tree, c.stakes, c.links, l, ok)
	}
}

func TestProofsAtTheLimit(t *testing.T) {
	path, stakes := pathTree(impl.MaxBlocks), []int{3, 4}
	var steps []impl.Link
	for k := range impl.MaxLinks {
		steps = append(steps, impl.Link{Who: k % 2, From: k / 2, To: k/2 + 1})
	}
	checkNoLie(t, linkCase{path, stakes, steps})
	checkProofsRefused(t, path, stakes, append(slices.Clone(steps), steps[0]))
	// One link in place of another one lies with all those that it surrounds.
	for at := range steps {
		links := slices.Clone(steps)
		links[at] = impl.Link{Who: at % 2, From: 0, To: impl.MaxBlocks - 1}
		c := linkCase{path, stakes, links}
		checkProofs(t, c)
		if l, ok := impl.LiarsBy(path, stakes, links); !sameList(l, []int{at % 2}) || !ok {
			t.Errorf("LiarsBy(%v) = %v, %v", links, l, ok)
		}
		for _, more := range []int{1, 2, 100} {
			checkProofsRefused(t, path, stakes, append(slices.Clone(links), slices.Repeat(links[at:at+1], more)...))
		}
	}
}

// smallestQuorums returns the quorums that are none without any one of their voters.
func smallestQuorums(stakes []int) [][]int {
	quorums := plainQuorums(stakes)
	return slices.DeleteFunc(quorums, func(group []int) bool {
		weight := plainWeight(stakes, group)
		return slices.ContainsFunc(group, func(voter int) bool { return 3*(weight-stakes[voter]) >= 2*plainSum(stakes) })
	})
}

// conflictingSteps returns the pairs of blocks whose parents are not above one another.
func conflictingSteps(tree []impl.Block) [][2]int {
	var pairs [][2]int
	for b := 1; b < len(tree); b++ {
		for a := 1; a < b; a++ {
			if x, y := tree[a].Parent, tree[b].Parent; !plainAbove(tree, x, y) && !plainAbove(tree, y, x) {
				pairs = append(pairs, [2]int{a, b})
			}
		}
	}
	return pairs
}

// drawnChain leads from block 0 to the block b in steps of drawn width, the last of which has width 1.
func drawnChain(tree []impl.Block, b int, seed int) [][2]int {
	way := plainWay(tree, tree[b].Parent)
	at := 0
	var chain [][2]int
	for k, draw := range drawnNumbers(len(way), 2, seed) {
		// The less often a block of the way is linked, the more often a link surrounds another one.
		if k > 0 && (draw == 0 || k == len(way)-1) {
			chain = append(chain, [2]int{at, way[k]})
			at = way[k]
		}
	}
	return append(chain, [2]int{at, b})
}

// drawnConflict lets a quorum, for each step a drawn one, link both chains to two blocks whose parents conflict.
func drawnConflict(tree []impl.Block, stakes []int, seed int) []impl.Link {
	draw := drawnNumbers(4, math.MaxInt32, seed)
	steps := conflictingSteps(tree)
	quorums := smallestQuorums(stakes)
	ends := steps[draw[0]%len(steps)]
	var links []impl.Link
	for k, pair := range append(drawnChain(tree, ends[0], seed+1), drawnChain(tree, ends[1], seed+2)...) {
		links = append(links, linksOf(quorums[(draw[1]+k*draw[2])%len(quorums)], pair[0], pair[1])...)
	}
	if many := len(links); many > 1 {
		for i, k := range drawnNumbers(many, many-1, seed+3) {
			links[i], links[k] = links[k], links[i]
		}
	}
	return links
}

// someConflicts has links that make two conflicting blocks final, by quorums that are as small as they can be.
func someConflicts() []linkCase {
	stakes := [][]int{{1, 1, 1}, {3}, {1, 2, 3}, {5, 3, 9, 2}, {4, 4, 4, 6}, repeated(1, 4), {2, 1, 1, 1, 1}, {1000, 999, 1000, 1}, repeated(7, 6), repeated(impl.MaxStake, 9), {18, 1, 1, 1, 1, 1, 1, 1, 1, 1}}
	trees := append(someTrees(), nestedTree(), forkTree(), armedTree(0, 12), armedTree(2, 9), armedTree(0, 4), armedTree(6, 15))
	var cases []linkCase
	for k, tree := range trees {
		if len(conflictingSteps(tree)) == 0 {
			continue
		}
		for seed, s := range slices.Concat(stakes, stakes, stakes) {
			links := drawnConflict(tree, s, k*101+seed*7+1)
			if len(links) <= impl.MaxLinks {
				cases = append(cases, linkCase{tree, s, links})
			}
		}
	}
	return cases
}

// eachQuorumLinks has each choice of a group of the voters for each of four steps, two on either branch.
func eachQuorumLinks(tree []impl.Block, stakes []int, steps [4][2]int) []linkCase {
	var cases []linkCase
	groups := groupsUpTo(len(stakes))
	var numbers []int
	for k := range groups {
		numbers = append(numbers, k)
	}
	eachListOf(4, numbers, func(chosen []int) {
		var links []impl.Link
		for k, pair := range steps {
			links = append(links, linksOf(groups[chosen[k]], pair[0], pair[1])...)
		}
		cases = append(cases, linkCase{tree, stakes, links})
	})
	return cases
}

// onlySurrounds reports whether there are proofs and all of them are of surround votes.
func onlySurrounds(tree []impl.Block, lies []impl.Proof) bool {
	return len(lies) > 0 && !slices.ContainsFunc(lies, func(p impl.Proof) bool {
		return plainDepth(tree, p.One.To) == plainDepth(tree, p.Two.To)
	})
}

// TestPromise11ConflictsAreProved: where two final blocks conflict, three times the stake that is lost is at least the total stake.
func TestPromise11ConflictsAreProved(t *testing.T) {
	// The branches of the second tree meet in block 0; its final blocks are 1, of depth 1, and 5, of depth 3.
	uneven := treeBy(7, func(b int) int { return []int{0, 0, 1, 0, 3, 4, 5}[b] })
	cases := slices.Concat(someConflicts(), someProofs(), forkedLinks())
	for _, stakes := range [][]int{{2, 1}, {1, 1, 1}, {1, 2, 3}} {
		cases = append(cases, eachQuorumLinks(forkTree(), stakes, [4][2]int{{0, 1}, {1, 3}, {0, 2}, {2, 4}})...)
		cases = append(cases, eachQuorumLinks(uneven, stakes, [4][2]int{{0, 1}, {1, 2}, {0, 5}, {5, 6}})...)
	}
	conflicts, exact, around := 0, 0, 0
	for _, c := range cases {
		a, b, is := impl.ConflictIn(c.tree, c.stakes, c.links)
		if !is {
			continue
		}
		conflicts++
		lost, ok := impl.StakeLost(c.tree, c.stakes, c.links)
		if 3*lost < plainSum(c.stakes) || !ok {
			t.Fatalf("StakeLost(%v, %v, %v) = %d, %v, but the final blocks %d and %d conflict", c.tree, c.stakes, c.links, lost, ok, a, b)
		}
		if 3*lost == plainSum(c.stakes) {
			exact++
		}
		if lies, _ := impl.LiesIn(c.tree, c.stakes, c.links); onlySurrounds(c.tree, lies) {
			around++
		}
	}
	// The promise would be empty without conflicts, and easy if all voters lied or none by a surround vote alone.
	if conflicts < 1000 || exact < 100 || around < 100 {
		t.Errorf("only %d conflicts, %d that prove exactly a third and %d by surround votes alone", conflicts, exact, around)
	}
}

// TestPromise11DrawnConflicts: each of the drawn lists does have a conflict, so that the promise says something of it.
func TestPromise11DrawnConflicts(t *testing.T) {
	cases := someConflicts()
	for _, c := range cases {
		if _, _, is := impl.ConflictIn(c.tree, c.stakes, c.links); !is {
			t.Fatalf("ConflictIn(%v, %v, %v) is false", c.tree, c.stakes, c.links)
		}
		checkProofs(t, c)
	}
	if len(cases) < 500 {
		t.Errorf("only %d conflicts", len(cases))
	}
}

// grownLinks adds each candidate where MayLink returns true, up to MaxLinks links, and counts those that it refuses.
func grownLinks(t *testing.T, tree []impl.Block, stakes []int, candidates []impl.Link) ([]impl.Link, int) {
	t.Helper()
	var links []impl.Link
	refused := 0
	for _, x := range candidates {
		may, ok := impl.MayLink(tree, stakes, links, x)
		if !ok {
			t.Fatalf("MayLink(%v, %v, %v, %v) is refused", tree, stakes, links, x)
		}
		switch {
		case !may:
			refused++
		case len(links) < impl.MaxLinks:
			links = append(links, x)
		}
		// Exactly the link that may not be made would be proved to violate the rules.
		if longer := append(slices.Clone(links), x); len(longer) <= impl.MaxLinks {
			if lies, _ := impl.LiesIn(tree, stakes, longer); (len(lies) == 0) != may {
				t.Fatalf("MayLink(%v, %v, %v, %v) = %v, but LiesIn = %v", tree, stakes, links, x, may, lies)
			}
		}
	}
	return links, refused
}

// TestPromise11PermittedLinks: links that are made only where MayLink allows them prove no violation, and so make no conflict.
func TestPromise11PermittedLinks(t *testing.T) {
	links, refused, full := 0, 0, 0
	check := func(tree []impl.Block, stakes []int, candidates []impl.Link) {
		t.Helper()
		l, no := grownLinks(t, tree, stakes, candidates)
		checkNoLie(t, linkCase{tree, stakes, l})
		if a, b, is := impl.ConflictIn(tree, stakes, l); a != 0 || b != 0 || is {
			t.Fatalf("ConflictIn(%v, %v, %v) = %d, %d, %v", tree, stakes, l, a, b, is)
		}
		links += len(l)
		refused += no
		if len(l) == impl.MaxLinks {
			full++
		}
	}
	for seed, tree := range someTrees() {
		for k, stakes := range [][]int{{2}, {1, 1, 1}, {5, 3, 9, 2}, repeated(1, impl.MaxVoters)} {
			check(tree, stakes, scatteredLinks(tree, len(stakes), 120, seed*3+k+1))
		}
	}
	for _, c := range someConflicts() {
		check(c.tree, c.stakes, c.links)
	}
	if links < 5000 || refused < 5000 || full < 10 {
		t.Errorf("only %d links, %d refused, %d full lists", links, refused, full)
	}
}

// badStatement is a link that no function of this chapter accepts for the tree of the examples, with the reason.
type badStatement struct {
	why  string
	link impl.Link
}

func badStatements() []badStatement {
	var bad []badStatement
	for _, who := range []int{-1, -2, impl.MaxVoters, impl.MaxVoters + 1, math.MaxInt, math.MinInt} {
		bad = append(bad, badStatement{"no voter", impl.Link{Who: who, From: 0, To: 1}}, badStatement{"no voter", impl.Link{Who: who, From: 2, To: 4}})
	}
	for _, b := range badBlocks(forkTree()) {
		bad = append(bad,
			badStatement{"a From that is no block", impl.Link{From: b, To: 1}},
			badStatement{"a To that is no block", impl.Link{Who: 9, From: 0, To: b}},
			badStatement{"no block at all", impl.Link{Who: 1, From: b, To: b}})
	}
	for b := range forkTree() {
		bad = append(bad, badStatement{"equal blocks", impl.Link{Who: 1, From: b, To: b}})
	}
	for _, pair := range [][2]int{{1, 2}, {2, 1}, {1, 4}, {4, 1}, {2, 3}, {3, 2}, {3, 4}, {4, 3}} {
		bad = append(bad, badStatement{"blocks neither of which is above the other", impl.Link{Who: 2, From: pair[0], To: pair[1]}})
	}
	for _, pair := range [][2]int{{1, 0}, {2, 0}, {3, 0}, {4, 0}, {3, 1}, {4, 2}} {
		bad = append(bad, badStatement{"a link upwards", impl.Link{From: pair[0], To: pair[1]}})
	}
	return append(bad, badStatement{"the zero link", impl.Link{}})
}

// checkPairRefused expects the zero result for two links in either order.
func checkPairRefused(t *testing.T, tree []impl.Block, a impl.Link, b impl.Link) {
	t.Helper()
	for _, p := range []impl.Proof{{One: a, Two: b}, {One: b, Two: a}} {
		if is, ok := impl.IsLie(tree, p.One, p.Two); is || ok {
			t.Errorf("IsLie(%v, %v, %v) = %v, %v", tree, p.One, p.Two, is, ok)
		}
		if is, ok := impl.CheckProof(tree, p); is || ok {
			t.Errorf("CheckProof(%v, %v) = %v, %v", tree, p, is, ok)
		}
	}
}

func checkMayLinkRefused(t *testing.T, tree []impl.Block, stakes []int, links []impl.Link, x impl.Link) {
	t.Helper()
	if may, ok := impl.MayLink(tree, stakes, links, x); may || ok {
		t.Errorf("MayLink(%v, %v, %v, %v) = %v, %v", tree, stakes, links, x, may, ok)
	}
}

// checkProofsRefused expects the zero result of every function that is given the links.
func checkProofsRefused(t *testing.T, tree []impl.Block, stakes []int, links []impl.Link) {
	t.Helper()
	if l, ok := impl.LiesIn(tree, stakes, links); len(l) != 0 || ok {
		t.Errorf("LiesIn(%v, %v, %v) = %v, %v", tree, stakes, links, l, ok)
	}
	if l, ok := impl.LiarsBy(tree, stakes, links); len(l) != 0 || ok {
		t.Errorf("LiarsBy(%v, %v, %v) = %v, %v", tree, stakes, links, l, ok)
	}
	if n, ok := impl.StakeLost(tree, stakes, links); n != 0 || ok {
		t.Errorf("StakeLost(%v, %v, %v) = %d, %v", tree, stakes, links, n, ok)
	}
	if l, ok := impl.CleanLinks(tree, stakes, links); len(l) != 0 || ok {
		t.Errorf("CleanLinks(%v, %v, %v) = %v, %v", tree, stakes, links, l, ok)
	}
	for _, x := range append(exampleLinks(), impl.Link{Who: 9, From: 0, To: 1}, impl.Link{}) {
		checkMayLinkRefused(t, tree, stakes, links, x)
	}
}

func TestPromise19InvalidStatements(t *testing.T) {
	tr, s := forkTree(), []int{1, 1, 1}
	good := append(lyingLinks(), impl.Link{Who: 9, From: 0, To: 3})
	for _, bad := range badStatements() {
		if is, ok := impl.IsLie(tr, bad.link, bad.link); is || ok {
			t.Errorf("IsLie of %v twice = %v, %v: %s", bad.link, is, ok, bad.why)
		}
		for _, l := range append(slices.Clone(good), bad.link) {
			checkPairRefused(t, tr, bad.link, l)
			// A good link of the same voter, if there is such a voter, and a bad one.
			l.Who = bad.link.Who
			checkPairRefused(t, tr, bad.link, l)
		}
		for _, links := range [][]impl.Link{nil, {}, exampleLinks(), lyingLinks()} {
			checkMayLinkRefused(t, tr, s, links, bad.link)
		}
	}
	for _, a := range good {
		for _, b := range good {
			checkIsLie(t, tr, a, b, plainIsLie(tr, a, b))
		}
	}
}

// TestPromise19VoterBounds: -1 and MaxVoters are no voters, 0 and MaxVoters - 1 are.
func TestPromise19VoterBounds(t *testing.T) {
	tr := forkTree()
	for who, good := range map[int]bool{-1: false, 0: true, impl.MaxVoters - 1: true, impl.MaxVoters: false} {
		a, b := impl.Link{Who: who, From: 0, To: 1}, impl.Link{Who: who, From: 0, To: 2}
		if !good {
			checkPairRefused(t, tr, a, b)
			checkPairRefused(t, tr, a, a)
			checkPairRefused(t, tr, a, impl.Link{From: 0, To: 2})
			checkMayLinkRefused(t, tr, []int{1}, nil, a)
			checkMayLinkRefused(t, tr, repeated(1, impl.MaxVoters), lyingLinks(), a)
			continue
		}
		checkIsLie(t, tr, a, b, true)
		checkIsLie(t, tr, a, a, false)
		checkMayLink(t, linkCase{tr, []int{1}, nil}, a, true)
		checkMayLink(t, linkCase{tr, repeated(1, impl.MaxVoters), linksBy([][3]int{{0, 0, 1}, {9, 0, 1}})}, b, false)
	}
}

func TestPromise19ProofsOfInvalidTrees(t *testing.T) {
	for _, bad := range badTrees() {
		for _, links := range [][]impl.Link{nil, {}, linksAlong([2]int{0, 1}), exampleLinks(), lyingLinks()} {
			checkProofsRefused(t, bad.tree, []int{1, 1, 1}, links)
		}
		for _, pair := range [][2]int{{0, 1}, {0, 2}, {0, 3}, {1, 3}, {0, 23}, {0, 0}} {
			a := impl.Link{From: pair[0], To: pair[1]}
			checkPairRefused(t, bad.tree, a, a)
			checkPairRefused(t, bad.tree, a, impl.Link{From: 0, To: 1})
			checkPairRefused(t, bad.tree, a, impl.Link{Who: 1, From: 0, To: 2})
		}
	}
}

func TestPromise19ProofsOfInvalidStakes(t *testing.T) {
	for _, stakes := range badStakes() {
		for _, links := range [][]impl.Link{nil, {}, linksAlong([2]int{0, 1}), lyingLinks()} {
			checkProofsRefused(t, forkTree(), stakes, links)
		}
		checkProofsRefused(t, pathTree(1), stakes, nil)
	}
	checkProofsRefused(t, nil, nil, nil)
}

func TestPromise19ProofsOfInvalidLinks(t *testing.T) {
	for _, bad := range badLinks() {
		checkProofsRefused(t, forkTree(), []int{1, 1, 1}, bad.links)
	}
	// A link that is not valid hides the lies of the others, wherever it stands.
	for _, l := range []impl.Link{{Who: 3, From: 0, To: 1}, {Who: -1, From: 0, To: 1}, {From: 1, To: 2}, {From: 0, To: 5}, {}} {
		for at := range len(lyingLinks()) + 1 {
			checkProofsRefused(t, forkTree(), []int{1, 1, 1}, slices.Insert(lyingLinks(), at, l))
		}
	}
	checkProofsRefused(t, forkTree(), []int{1, 1}, lyingLinks())
	checkProofsRefused(t, forkTree()[:4], []int{1, 1, 1}, lyingLinks())
	checkProofs(t, linkCase{forkTree(), repeated(1, impl.MaxVoters), lyingLinks()})
}

// TestPromise19OneBlock: a tree of block 0 alone has no links, and everything but links is valid of it.
func TestPromise19OneBlock(t *testing.T) {
	checkNoLie(t, linkCase{pathTree(1), []int{1}, nil})
	for _, x := range []impl.Link{{}, {From: 0, To: 1}, {From: -1, To: 0}} {
		checkMayLinkRefused(t, pathTree(1), []int{1}, nil, x)
		checkPairRefused(t, pathTree(1), x, x)
	}
}

// lieBehind is a link of voter 0 that lies with most others of that voter.
var lieBehind = impl.Link{Who: 0, From: 0, To: 2}

// TestPromise19ProofsBehindTheLength: what is behind the length of an argument is no link, no stake and no block.
func TestPromise19ProofsBehindTheLength(t *testing.T) {
	for _, c := range someProofs() {
		checkProofs(t, linkCase{roomyWith(c.tree, spareBlock(c.tree)), roomy(c.stakes), roomyWith(c.links, lieBehind)})
	}
	tree, stakes := roomyWith(forkTree(), impl.Block{Parent: 2, Slot: 9}), roomyWith([]int{5, 6}, 1)
	links := roomyWith(linksBy([][3]int{{0, 0, 1}, {1, 0, 1}}), lieBehind)
	checkNoLie(t, linkCase{tree, stakes, links})
	checkMayLink(t, linkCase{tree, stakes, links[:0]}, lieBehind, true)
	checkPairRefused(t, tree, impl.Link{From: 0, To: 5}, impl.Link{From: 0, To: 1})
	checkMayLinkRefused(t, tree, stakes, links, impl.Link{From: 0, To: 5})
	checkProofsRefused(t, tree, stakes, linksBy([][3]int{{2, 0, 1}}))
	checkProofsRefused(t, tree, stakes[:0], nil)
	checkProofsRefused(t, tree[:0], stakes, nil)
}

// keptProofs are valid and not valid in every argument.
func keptProofs() []linkCase {
	cases := append(someProofs(), keptLinks()...)
	for k, c := range someConflicts() {
		if k%20 == 0 {
			cases = append(cases, c)
		}
	}
	return cases
}

func TestPromise19ProofArgumentsAreKept(t *testing.T) {
	some := append(lyingLinks(), impl.Link{}, impl.Link{Who: -1, From: 0, To: 1}, impl.Link{Who: impl.MaxVoters, From: 0, To: 1}, impl.Link{Who: 9, From: 3, To: math.MaxInt})
	for _, c := range keptProofs() {
		given, kept := withRoom(t, c, lieBehind)
		tree, stakes, links := given.tree, given.stakes, given.links
		impl.LiesIn(tree, stakes, links)
		kept("LiesIn")
		impl.LiarsBy(tree, stakes, links)
		kept("LiarsBy")
		impl.StakeLost(tree, stakes, links)
		kept("StakeLost")
		impl.CleanLinks(tree, stakes, links)
		kept("CleanLinks")
		for k, x := range some {
			impl.MayLink(tree, stakes, links, x)
			kept("MayLink")
			impl.IsLie(tree, x, some[(k+1)%len(some)])
			kept("IsLie")
			impl.CheckProof(tree, impl.Proof{One: x, Two: some[(k+2)%len(some)]})
			kept("CheckProof")
		}
	}
}

func TestPromise19ProofListsAreNew(t *testing.T) {
	for _, c := range someProofs() {
		junk := impl.Link{Who: -behind}
		checkLinkListIsNew(t, "LiesIn", c, plainLies(c), impl.Proof{One: junk, Two: junk}, func(c linkCase) []impl.Proof {
			l, _ := impl.LiesIn(c.tree, c.stakes, c.links)
			return l
		})
		checkLinkListIsNew(t, "LiarsBy", c, plainLiarsBy(c), -behind, func(c linkCase) []int {
			l, _ := impl.LiarsBy(c.tree, c.stakes, c.links)
			return l
		})
		checkLinkListIsNew(t, "CleanLinks", c, plainClean(c), junk, func(c linkCase) []impl.Link {
			l, _ := impl.CleanLinks(c.tree, c.stakes, c.links)
			return l
		})
	}
}
