/- What is proved here: plain facts on pools: what is left of a pool when votes are struck is a pool. No conditions. -/
import Derived.Test.YthiegfbdmmpabaaVoteFacts
namespace Go.Proofs.Ythiegfbdmmpabaa
open Go.RowKit

theorem less_iff {a b : Vt} : lessV a b = true ↔ a.1 < b.1 ∨ (a.1 = b.1 ∧ (a.2.1 < b.2.1 ∨ (a.2.1 = b.2.1 ∧ a.2.2 < b.2.2))) := by
  unfold lessV
  simp only [Bool.or_eq_true, Bool.and_eq_true, decide_eq_true_iff, beq_iff_eq]
theorem less_trans {a b c : Vt} (h : lessV a b = true) (h' : lessV b c = true) : lessV a c = true := by
  rw [less_iff] at *; omega
theorem less_irr (a : Vt) : lessV a a = false := by
  cases h : lessV a a
  · rfl
  · rw [less_iff] at h; omega
theorem less_asym {a b : Vt} (h : lessV a b = true) : lessV b a = false := by
  cases h' : lessV b a
  · rfl
  · rw [less_iff] at h h'; omega
theorem less_tot {a b : Vt} (h : lessV a b = false) (h' : lessV b a = false) : a = b := by
  have h1 : ¬ lessV a b = true := by rw [h]; decide
  have h2 : ¬ lessV b a = true := by rw [h']; decide
  rw [less_iff] at h1 h2
  obtain ⟨a1, a2, a3⟩ := a
  obtain ⟨b1, b2, b3⟩ := b
  simp only at h1 h2
  have e1 : a1 = b1 := by omega
  have e2 : a2 = b2 := by omega
  have e3 : a3 = b3 := by omega
  subst e1; subst e2; subst e3; rfl

def LtV (a b : Vt) : Prop := lessV a b = true
/-- In the order of a pool. -/
def Adj (vs : List Vt) : Prop := ∀ k, k < vs.length → k ≠ 0 → lessV (getV vs (k - 1)) (getV vs k) = true
theorem getV_at {vs : List Vt} {k : Nat} (h : k < vs.length) : getV vs k = vs[k] := by
  unfold getV; rw [List.getElem?_eq_getElem h, Option.getD_some]
theorem adj_lt {vs : List Vt} (h : Adj vs) {i : Nat} : ∀ j, i < j → j < vs.length → lessV (getV vs i) (getV vs j) = true := by
  intro j
  induction j with
  | zero => intro h0; omega
  | succ j ih =>
    intro hij hj
    have h1 := h (j + 1) hj (by omega)
    rw [Nat.add_sub_cancel] at h1
    by_cases e : i = j
    · subst e; exact h1
    · exact less_trans (ih (by omega) (by omega)) h1
theorem adj_iff {vs : List Vt} : Adj vs ↔ vs.Pairwise LtV := by
  rw [List.pairwise_iff_getElem]
  constructor
  · intro h i j hi hj hij
    have := adj_lt h j hij hj
    rwa [getV_at hi, getV_at hj] at this
  · intro h k hk h0
    have := h (k - 1) k (by omega) hk (by omega)
    rw [getV_at hk, getV_at (by omega)]
    exact this
theorem poolOk_iff' {ts : List Blk} {ss : List Int} {vs : List Vt} : poolOk ts ss vs = true ↔ ((Tree ts ∧ goodB ss = true) ∧ vs.length ≤ 60) ∧ (∀ v ∈ vs, voteOk ts ss.length v = true) ∧ vs.Pairwise LtV := by
  rw [poolOk_iff, ← adj_iff]
  refine and_congr_right fun _ => and_congr ?_ Iff.rfl
  constructor
  · intro h v hv
    obtain ⟨k, hk, e⟩ := List.mem_iff_getElem.1 hv
    have := h k hk
    rwa [getV_at hk, e] at this
  · intro h k hk
    rw [getV_at hk]
    exact h _ (List.getElem_mem hk)
/-- A pool of which votes are struck. -/
theorem poolOk_filter {ts : List Blk} {ss : List Int} {vs : List Vt} (h : poolOk ts ss vs = true) (p : Vt → Bool) : poolOk ts ss (vs.filter p) = true := by
  rw [poolOk_iff'] at h ⊢
  obtain ⟨⟨h1, h2⟩, h3, h4⟩ := h
  exact ⟨⟨h1, Nat.le_trans (List.length_filter_le _ _) h2⟩, fun v hv => h3 v (List.mem_filter.1 hv).1, h4.filter p⟩
theorem filter_step {vs : List Vt} {k : Nat} (p : Vt → Bool) (h : k < vs.length) : (vs.take (k + 1)).filter p = if p (getV vs k) = true then (vs.take k).filter p ++ [getV vs k] else (vs.take k).filter p := by
  rw [List.take_succ_eq_append_getElem h, List.filter_append, getV_at h]
  split
  · next e => simp [e]
  · next e => simp [e]
theorem filter_len {vs : List Vt} {k : Nat} (p : Vt → Bool) (h : k ≤ vs.length) : ((vs.take k).filter p).length ≤ k := by
  have := List.length_filter_le p (vs.take k)
  rw [List.length_take] at this; omega
theorem filter_end {vs : List Vt} {k : Nat} (p : Vt → Bool) (h : vs.length ≤ k) : (vs.take k).filter p = vs.filter p := by rw [List.take_of_length_le h]
end Go.Proofs.Ythiegfbdmmpabaa
