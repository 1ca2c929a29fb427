/- What is proved here: plain facts on views: a pool within another; what SeeVotes, FreezeView, MergeView, NewView return. No conditions. -/
import Derived.Test.YtlobjfipefibaaaMergeSpec
import Derived.Test.YtlobjfipefibaaaVSetImpl
namespace Go.Proofs.Ytlobjfipefibaaa
open Go.RowKit

def withinB (a b : List Vt) : Bool := a.all fun v => decide (v ∈ b)
theorem withinB_iff {a b : List Vt} : withinB a b = true ↔ ∀ v ∈ a, v ∈ b := by
  unfold withinB; rw [List.all_eq_true]
  exact ⟨fun h v hv => of_decide_eq_true (h v hv), fun h v hv => decide_eq_true (h v hv)⟩
theorem allV_ge (l more : List Vt) : ∀ k, l.length ≤ (allV l more k).length := by
  intro k
  induction k with
  | zero => exact Nat.le_refl _
  | succ k ih => simp only [allV]; exact Nat.le_trans ih (putV_ge _ _)
theorem allV_same {b a : List Vt} (hb : b.Pairwise LtV) : ∀ k, (∀ j, j < k → getV a j ∈ b) → allV b a k = b := fun k h =>
  ltV_uniq (allV_sorted hb k) hb fun x => by
    rw [allV_mem]
    exact ⟨fun h' => h'.elim id (fun ⟨j, hj, e⟩ => e ▸ h j hj), .inl⟩
theorem allV_stay {b a : List Vt} (hb : b.Pairwise LtV) : ∀ k, (allV b a k).length = b.length → ∀ j, j < k → getV a j ∈ b := by
  intro k
  induction k with
  | zero => intro _ j hj; exact absurd hj (Nat.not_lt_zero _)
  | succ k ih =>
    intro h j hj
    simp only [allV] at h
    have h1 := putV_ge (allV b a k) (getV a k)
    have h2 := allV_ge b a k
    have h3 : (allV b a k).length = b.length := by omega
    by_cases e : j = k
    · subst e
      rw [putV_size (allV_sorted hb j)] at h
      rw [allV_same hb j (ih h3)] at h
      by_cases hm : getV a j ∈ b
      · exact hm
      · rw [if_neg hm] at h; omega
    · exact ih h3 j (by omega)
theorem within_len {a b : List Vt} (hb : b.Pairwise LtV) : decide ((allV b a a.length).length = b.length) = withinB a b := by
  rw [Bool.eq_iff_iff, decide_eq_true_iff, withinB_iff]
  constructor
  · intro h v hv
    obtain ⟨j, hj, e⟩ := get_mem.2 hv
    rw [← e]; exact allV_stay hb _ h j hj
  · intro h
    rw [allV_same hb _ fun j hj => h _ (get_mem.1 ⟨j, hj, rfl⟩)]

/-- A valid view: its seen votes, its frozen ones. -/
def viewOk (ts : List Blk) (ss : List Int) (s f : List Vt) : Bool := poolOk ts ss s && (poolOk ts ss f && withinB f s)
def nvR (ts : List Blk) (ss : List Int) (p : List Vt) : List Vt := if poolOk ts ss p = true then p else []
def seeOK (ts : List Blk) (ss : List Int) (s f p : List Vt) : Bool := viewOk ts ss s f && mrgOK ts ss s p
def seeS (ts : List Blk) (ss : List Int) (s f p : List Vt) : List Vt := if seeOK ts ss s f p = true then setV (s ++ p) else []
def seeF (ts : List Blk) (ss : List Int) (s f p : List Vt) : List Vt := if seeOK ts ss s f p = true then f else []
def frzR (ts : List Blk) (ss : List Int) (s f : List Vt) : List Vt := if viewOk ts ss s f = true then s else []
def mvOK (ts : List Blk) (ss : List Int) (s f p : List Vt) : Bool := viewOk ts ss s f && (mrgOK ts ss s p && mrgOK ts ss f p)
def mvS (ts : List Blk) (ss : List Int) (s f p : List Vt) : List Vt := if mvOK ts ss s f p = true then setV (s ++ p) else []
def mvF (ts : List Blk) (ss : List Int) (s f p : List Vt) : List Vt := if mvOK ts ss s f p = true then setV (f ++ p) else []
def wiOK (ts : List Blk) (ss : List Int) (a b : List Vt) : Bool := poolOk ts ss a && poolOk ts ss b
def wiR (ts : List Blk) (ss : List Int) (a b : List Vt) : Bool := wiOK ts ss a b && withinB a b
theorem mrg_pool {ts : List Blk} {ss : List Int} {a b : List Vt} (h : mrgOK ts ss a b = true) : poolOk ts ss (setV (a ++ b)) = true := by
  unfold mrgOK at h
  simp only [Bool.and_eq_true, decide_eq_true_iff] at h
  obtain ⟨⟨h1, h2⟩, h3⟩ := h
  rw [(mrg_tell h1 h2).2.1]
  unfold mrgOK; rw [h1, h2, decide_eq_true h3]; rfl
theorem pool_len60 {ts : List Blk} {ss : List Int} {a : List Vt} (h : poolOk ts ss a = true) : a.length ≤ 60 := (poolOk_iff'.1 h).1.2
theorem nvR_len (ts : List Blk) (ss : List Int) (p : List Vt) : (nvR ts ss p).length ≤ 100 := by
  unfold nvR; split
  · next h => have := pool_len60 h; omega
  · exact Nat.zero_le _
theorem view_s {ts : List Blk} {ss : List Int} {s f : List Vt} (h : viewOk ts ss s f = true) : poolOk ts ss s = true := by unfold viewOk at h; simp only [Bool.and_eq_true] at h; exact h.1
theorem view_f {ts : List Blk} {ss : List Int} {s f : List Vt} (h : viewOk ts ss s f = true) : poolOk ts ss f = true := by unfold viewOk at h; simp only [Bool.and_eq_true] at h; exact h.2.1
theorem frzR_len (ts : List Blk) (ss : List Int) (s f : List Vt) : (frzR ts ss s f).length ≤ 100 := by
  unfold frzR; split
  · next h => have := pool_len60 (view_s h); omega
  · exact Nat.zero_le _
theorem seeS_len (ts : List Blk) (ss : List Int) (s f p : List Vt) : (seeS ts ss s f p).length ≤ 100 := by
  unfold seeS; split
  · next h => unfold seeOK at h; rw [Bool.and_eq_true] at h; have := pool_len60 (mrg_pool h.2); omega
  · exact Nat.zero_le _
theorem seeF_len (ts : List Blk) (ss : List Int) (s f p : List Vt) : (seeF ts ss s f p).length ≤ 100 := by
  unfold seeF; split
  · next h => unfold seeOK at h; rw [Bool.and_eq_true] at h; have := pool_len60 (view_f h.1); omega
  · exact Nat.zero_le _
theorem mvS_len (ts : List Blk) (ss : List Int) (s f p : List Vt) : (mvS ts ss s f p).length ≤ 100 := by
  unfold mvS; split
  · next h => unfold mvOK at h; rw [Bool.and_eq_true, Bool.and_eq_true] at h; have := pool_len60 (mrg_pool h.2.1); omega
  · exact Nat.zero_le _
theorem mvF_len (ts : List Blk) (ss : List Int) (s f p : List Vt) : (mvF ts ss s f p).length ≤ 100 := by
  unfold mvF; split
  · next h => unfold mvOK at h; rw [Bool.and_eq_true, Bool.and_eq_true] at h; have := pool_len60 (mrg_pool h.2.2); omega
  · exact Nat.zero_le _
/-- What merging leaves is a valid view. -/
theorem mv_view {ts : List Blk} {ss : List Int} {s f p : List Vt} (h : mvOK ts ss s f p = true) : viewOk ts ss (setV (s ++ p)) (setV (f ++ p)) = true := by
  unfold mvOK at h
  simp only [Bool.and_eq_true] at h
  obtain ⟨hv, h1, h2⟩ := h
  unfold viewOk
  rw [mrg_pool h1, mrg_pool h2, Bool.true_and, Bool.true_and, withinB_iff]
  intro v hv'
  rw [setV_mem, List.mem_append] at hv' ⊢
  unfold viewOk at hv
  simp only [Bool.and_eq_true] at hv
  exact hv'.elim (fun h => .inl (withinB_iff.1 hv.2.2 v h)) .inr
end Go.Proofs.Ytlobjfipefibaaa
