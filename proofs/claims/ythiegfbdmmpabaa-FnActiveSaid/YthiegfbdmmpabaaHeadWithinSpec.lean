/- What is proved here: what the program's and the model's HeadWithin return. No conditions but lengths. -/
import Derived.Test.YthiegfbdmmpabaaTrimSpec
import Derived.Test.YthiegfbdmmpabaaHeadSpec
namespace Go.Proofs.Ythiegfbdmmpabaa
open Go.RowKit

def headWR (ts : List Blk) (ss : List Int) (vs : List Vt) (now keep : Int) : Int := if trimOK ts ss vs now keep = true then headPR ts ss (actR ts ss vs now keep) else 0
theorem act_pool {ts : List Blk} {ss : List Int} {vs : List Vt} {now keep : Int} (h : trimOK ts ss vs now keep = true) : poolOk ts ss (actR ts ss vs now keep) = true := by
  unfold actR
  rw [if_pos h]
  exact poolOk_filter (trimOK_iff.1 h).1 _

end Go.Proofs.Ythiegfbdmmpabaa
