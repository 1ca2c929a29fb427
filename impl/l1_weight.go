package impl

import "math/bits"

const MaxVoters = 10
const MaxStake = 1000

// One bit for each voter: a mask is a whole group in one number, so that counting visits all groups.
const (
	voter0 = 1 << iota
	voter1
	voter2
	voter3
	voter4
	voter5
	voter6
	voter7
	voter8
	voter9
	masksEnd
)

var voterBits = [MaxVoters]int{voter0, voter1, voter2, voter3, voter4, voter5, voter6, voter7, voter8, voter9}

func GoodStakes(stakes []int) bool {
	if len(stakes) < 1 || len(stakes) > MaxVoters {
		return false
	}
	for _, stake := range stakes {
		if stake < 1 || stake > MaxStake {
			return false
		}
	}
	return true
}

func WeightOf(stakes []int, who []int) (int, bool) {
	if !isGroupOf(stakes, who) {
		return 0, false
	}
	weight := 0
	for _, voter := range who {
		weight += stakes[voter]
	}
	return weight, true
}

func IsGreat(stakes []int, who []int) (bool, bool) {
	weight, ok := WeightOf(stakes, who)
	if !ok {
		return false, false
	}
	return isQuorumWeight(weight, sumOf(stakes)), true
}

func InBoth(a []int, b []int) ([]int, bool) {
	maskA, okA := MaskOf(a)
	maskB, okB := MaskOf(b)
	if !okA || !okB {
		return nil, false
	}
	return OfMask(maskA & maskB)
}

func SmallestGreat(stakes []int) ([]int, bool) {
	if !GoodStakes(stakes) {
		return nil, false
	}
	quorums := quorumMasks(groupWeights(stakes))
	best := quorums[0]
	for _, mask := range quorums {
		// The masks ascend: of equally many voters, the least mask was met first and stays.
		if countVoters(mask) < countVoters(best) {
			best = mask
		}
	}
	return OfMask(best)
}

func MaskOf(who []int) (int, bool) {
	if !isGroup(who) {
		return 0, false
	}
	mask := 0
	for _, voter := range who {
		mask |= voterBits[voter]
	}
	return mask, true
}

func OfMask(mask int) ([]int, bool) {
	if mask < 0 || mask >= masksEnd {
		return nil, false
	}
	var who []int
	for voter, bit := range voterBits {
		if mask&bit != 0 {
			who = append(who, voter)
		}
	}
	return who, true
}

func LeastShared(stakes []int) (int, bool) {
	if !GoodStakes(stakes) {
		return 0, false
	}
	weights := groupWeights(stakes)
	quorums := quorumMasks(weights)
	least := sumOf(stakes)
	for i, a := range quorums {
		// A quorum is paired with itself too: all voters together may be the only quorum.
		for _, b := range quorums[i:] {
			least = min(least, weights[a&b])
		}
	}
	return least, true
}

func isGroup(who []int) bool {
	last := -1
	for _, voter := range who {
		if voter <= last || voter >= MaxVoters {
			return false
		}
		last = voter
	}
	return true
}

func isGroupOf(stakes []int, who []int) bool {
	if !GoodStakes(stakes) || !isGroup(who) {
		return false
	}
	// A group increases, so its last voter is the greatest.
	return len(who) == 0 || who[len(who)-1] < len(stakes)
}

// isQuorumWeight multiplies instead of dividing, so that exactly two thirds are not lost to rounding.
func isQuorumWeight(weight int, total int) bool {
	return 3*weight >= 2*total
}

func sumOf(l []int) int {
	sum := 0
	for _, n := range l {
		sum += n
	}
	return sum
}

func countVoters(mask int) int {
	return bits.OnesCount(uint(mask))
}

// groupWeights returns the weight of every group of the voters, at the index of its mask.
func groupWeights(stakes []int) []int {
	weights := make([]int, 1<<len(stakes))
	for mask := range weights {
		for voter, stake := range stakes {
			if mask&voterBits[voter] != 0 {
				weights[mask] += stake
			}
		}
	}
	return weights
}

// quorumMasks returns the ascending masks of all quorums; it is never empty, because all voters together are one.
func quorumMasks(weights []int) []int {
	total := weights[len(weights)-1]
	var quorums []int
	for mask, weight := range weights {
		if isQuorumWeight(weight, total) {
			quorums = append(quorums, mask)
		}
	}
	return quorums
}
