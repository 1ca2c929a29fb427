/- What is proved here: what the program's and the model's HeadOf return. No conditions but lengths. -/
import Derived.Test.YthiegfbdmmpabaaWeighSpec
import Derived.Test.YthiegfbdmmpabaaGhostRest
namespace Go.Proofs.Ythiegfbdmmpabaa
open Go.RowKit

def headP (ts : List Blk) (ss : List Int) (vs : List Vt) : Nat := headZ ts (getI (sub ts (wtsL ts ss vs))) 0
def headPR (ts : List Blk) (ss : List Int) (vs : List Vt) : Int := if poolOk ts ss vs = true then (headP ts ss vs : Nat) else 0
theorem head_of {ts : List Blk} {ss : List Int} {vs : List Vt} (h : poolOk ts ss vs = true) : headOK ts (wtsL ts ss vs) 0 = true ∧ headHR ts (wtsL ts ss vs) 0 = headPR ts ss vs := by
  have h1 : headOK ts (wtsL ts ss vs) 0 = true := by
    unfold headOK
    have := (poolOk_iff.1 h).1.1.1.pos
    rw [wts_own h, inB_true (Int.le_refl 0) (by omega)]; rfl
  refine ⟨h1, ?_⟩
  unfold headHR headPR headP
  rw [if_pos h1, if_pos h]; rfl

end Go.Proofs.Ythiegfbdmmpabaa
