/- What is proved here: what the program's SubWeights, HeadFrom, IsHeaviest and MarginAt return. No conditions but lengths. -/
import Derived.Test.YthiegfbdmmpabaaGhostFacts
import Derived.Test.YthiegfbdmmpabaaFenImpl
import Derived.Test.YthiegfbdmmpabaaSparseImpl
import Derived.Test.YthiegfbdmmpabaaLawCopy
import Derived.StillTailTactics
namespace Go.Proofs.Ythiegfbdmmpabaa
open Go.RowKit

theorem goodW_own {ts : List Blk} {xs : List Int} (ht : Tree ts) (hl : xs.length = ts.length) : goodW xs = allB xs 0 100000 := by
  unfold goodW
  have := ht.pos; have := ht.few
  rw [inB_true (by omega) (by omega)]; rfl

theorem OwnAt.setAt' {w : World} {B g n : Nat} {xs : List Int} (h : OwnAt w B (some ⟨g, 0, none⟩) n xs) {j : Nat} (hj : j < n) (y : Int) : OwnAt (w.setCell ⟨g, j, none⟩ (.int .i64 y)) B (some ⟨g, 0, none⟩) n (xs.set j y) := by
  obtain ⟨g', m, f, e, hm, hr, hf⟩ := h.own (by omega)
  cases e
  refine ⟨by rw [List.length_set]; exact h.len, fun _ => ⟨g, m, _, rfl, hm, hr.set j (.int .i64 y), fun i hi => ?_⟩, fun ad e => by cases e; exact ⟨(h.low _ rfl).1, by simpa using (h.low _ rfl).2⟩⟩
  by_cases e : i = j
  · subst e
    have : i < xs.length := by rw [h.len]; exact hj
    simp [this]
  · simp only [e, if_false]
    rw [hf i hi, List.getElem?_set_ne (by omega)]
theorem subs_next (ts : List Blk) (xs : List Int) {n k : Nat} (hl : ts.length = n) (hk : k < n) (h0 : k ≠ 0) : subs ts xs (n - 1 - (k - 1)) = addI (subs ts xs (n - 1 - k)) (parN ts k) (getI (subs ts xs (n - 1 - k)) k) := by
  obtain ⟨j, hj⟩ : ∃ j, n - 1 - k = j := ⟨_, rfl⟩
  rw [hj, show n - 1 - (k - 1) = j + 1 by omega]
  simp only [subs]
  rw [show ts.length - 1 - j = k by omega]

end Go.Proofs.Ythiegfbdmmpabaa
