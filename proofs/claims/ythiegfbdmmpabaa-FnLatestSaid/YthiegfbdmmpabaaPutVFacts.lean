/- What is proved here: plain facts on votes put in their places, once; a list in a pool's order is settled by its members. No conditions. -/
import Derived.Test.YthiegfbdmmpabaaPoolFacts
namespace Go.Proofs.Ythiegfbdmmpabaa
open Go.RowKit

/-- How many votes of the head of l stand before x. -/
def putKV : List Vt → Vt → Nat
  | [], _ => 0
  | y :: l, x => if lessV y x = true then putKV l x + 1 else 0
theorem putKV_le (l : List Vt) (x : Vt) : putKV l x ≤ l.length := by
  induction l with
  | nil => exact Nat.le_refl _
  | cons y l ih => unfold putKV; split <;> simp; exact ih
theorem putKV_lt {l : List Vt} {x : Vt} {j : Nat} (h : j < putKV l x) : lessV (getV l j) x = true := by
  induction l generalizing j with
  | nil => exact absurd h (Nat.not_lt_zero _)
  | cons y l ih =>
    unfold putKV at h
    split at h
    · next hy =>
      cases j with
      | zero => exact hy
      | succ j => exact ih (j := j) (by omega)
    · omega
theorem putKV_at {l : List Vt} {x : Vt} (h : putKV l x < l.length) : lessV (getV l (putKV l x)) x = false := by
  induction l with
  | nil => simp at h
  | cons y l ih =>
    unfold putKV at h ⊢
    split
    · rename_i hy
      rw [if_pos hy] at h
      exact ih (by simpa using h)
    · rename_i hy
      cases hc : lessV (getV (y :: l) 0) x
      · rfl
      · exact absurd hc hy
def putV (l : List Vt) (x : Vt) : List Vt := if l[putKV l x]? = some x then l else l.take (putKV l x) ++ x :: l.drop (putKV l x)
theorem putV_len (l : List Vt) (x : Vt) : (putV l x).length ≤ l.length + 1 := by
  unfold putV; split
  · omega
  · simp; omega
theorem putV_ge (l : List Vt) (x : Vt) : l.length ≤ (putV l x).length := by
  unfold putV; split
  · omega
  · simp; omega
theorem putV_mem {l : List Vt} {x y : Vt} : y ∈ putV l x ↔ y = x ∨ y ∈ l := by
  unfold putV
  split
  · next h =>
    have hx : x ∈ l := List.mem_iff_getElem?.2 ⟨_, h⟩
    exact ⟨fun h => .inr h, fun h => h.elim (fun e => by rw [e]; exact hx) id⟩
  · rw [List.mem_append, List.mem_cons]
    have : y ∈ l ↔ y ∈ l.take (putKV l x) ∨ y ∈ l.drop (putKV l x) := by rw [← List.mem_append, List.take_append_drop]
    rw [this]
    constructor
    · rintro (h | h | h)
      · exact .inr (.inl h)
      · exact .inl h
      · exact .inr (.inr h)
    · rintro (h | h | h)
      · exact .inr (.inl h)
      · exact .inl h
      · exact .inr (.inr h)
theorem putV_takes {l : List Vt} {x : Vt} : ∀ y ∈ l.take (putKV l x), LtV y x := by
  intro y hy
  obtain ⟨j, hj, e⟩ := List.mem_iff_getElem.1 hy
  rw [List.length_take] at hj
  rw [List.getElem_take] at e
  have := putKV_lt (l := l) (x := x) (j := j) (by omega)
  rw [getV_at (by omega), e] at this
  exact this
theorem putV_drops {l : List Vt} {x : Vt} (hl : l.Pairwise LtV) (hne : l[putKV l x]? ≠ some x) : ∀ y ∈ l.drop (putKV l x), LtV x y := by
  intro y hy
  obtain ⟨j, hj, e⟩ := List.mem_iff_getElem.1 hy
  rw [List.length_drop] at hj
  rw [List.getElem_drop] at e
  have h0 := putKV_at (l := l) (x := x) (by omega)
  rw [getV_at (by omega)] at h0
  have hx : LtV x l[putKV l x] := by
    unfold LtV
    cases hc : lessV x l[putKV l x]
    · exact absurd (by rw [List.getElem?_eq_getElem (by omega), less_tot h0 hc]) hne
    · rfl
  cases j with
  | zero => rw [← e]; exact hx
  | succ j =>
    have := List.pairwise_iff_getElem.1 hl (putKV l x) (putKV l x + (j + 1)) (by omega) (by omega) (by omega)
    rw [← e]
    exact less_trans hx this
theorem putV_sorted {l : List Vt} {x : Vt} (hl : l.Pairwise LtV) : (putV l x).Pairwise LtV := by
  unfold putV
  split
  · exact hl
  · rename_i hne
    rw [List.pairwise_append]
    refine ⟨hl.sublist (List.take_sublist _ _), List.pairwise_cons.2 ⟨putV_drops hl hne, hl.sublist (List.drop_sublist _ _)⟩, fun a ha b hb => ?_⟩
    rcases List.mem_cons.1 hb with rfl | hb
    · exact putV_takes a ha
    · exact less_trans (putV_takes a ha) (putV_drops hl hne b hb)
/-- The first k votes of more, put into l one after the other. -/
def allV (l more : List Vt) : Nat → List Vt
  | 0 => l
  | k + 1 => putV (allV l more k) (getV more k)
theorem allV_sorted {l more : List Vt} (hl : l.Pairwise LtV) : ∀ k, (allV l more k).Pairwise LtV
  | 0 => hl
  | k + 1 => putV_sorted (allV_sorted hl k)
theorem allV_mem {l more : List Vt} {y : Vt} : ∀ k, y ∈ allV l more k ↔ y ∈ l ∨ ∃ j, j < k ∧ getV more j = y := by
  intro k
  induction k with
  | zero => simp [allV]
  | succ k ih =>
    simp only [allV]
    rw [putV_mem, ih]
    constructor
    · rintro (h | h | ⟨j, a, b⟩)
      · exact .inr ⟨k, by omega, h.symm⟩
      · exact .inl h
      · exact .inr ⟨j, by omega, b⟩
    · rintro (h | ⟨j, a, b⟩)
      · exact .inr (.inl h)
      · by_cases e : j = k
        · subst e; exact .inl b.symm
        · exact .inr (.inr ⟨j, by omega, b⟩)
theorem allV_len (l more : List Vt) : ∀ k, (allV l more k).length ≤ l.length + k := by
  intro k
  induction k with
  | zero => exact Nat.le_refl _
  | succ k ih => simp only [allV]; have := putV_len (allV l more k) (getV more k); omega
theorem get_mem {l : List Vt} {y : Vt} : (∃ j, j < l.length ∧ getV l j = y) ↔ y ∈ l := by
  constructor
  · rintro ⟨j, hj, rfl⟩; rw [getV_at hj]; exact List.getElem_mem hj
  · intro h
    obtain ⟨j, hj, e⟩ := List.mem_iff_getElem.1 h
    exact ⟨j, hj, by rw [getV_at hj]; exact e⟩
theorem ltV_nodup {l : List Vt} (h : l.Pairwise LtV) : l.Nodup := h.imp (fun {a b} h e => by subst e; unfold LtV at h; rw [less_irr] at h; cases h)
/-- Two lists in a pool's order with the same members are one. -/
theorem ltV_uniq {a b : List Vt} (ha : a.Pairwise LtV) (hb : b.Pairwise LtV) (h : ∀ x, x ∈ a ↔ x ∈ b) : a = b :=
  List.Perm.eq_of_pairwise (le := LtV) (fun x y _ _ h1 h2 => by unfold LtV at h1 h2; rw [less_asym h1] at h2; cases h2) ha hb ((List.perm_ext_iff_of_nodup (ltV_nodup ha) (ltV_nodup hb)).2 h)
/-- All votes of a list, once each, in order. -/
def setV (l : List Vt) : List Vt := allV [] l l.length
theorem setV_sorted (l : List Vt) : (setV l).Pairwise LtV := allV_sorted List.Pairwise.nil _
theorem setV_mem {l : List Vt} {y : Vt} : y ∈ setV l ↔ y ∈ l := by
  unfold setV
  rw [allV_mem, get_mem]; simp
theorem setV_len (l : List Vt) : (setV l).length ≤ l.length := by have := allV_len [] l l.length; unfold setV; simpa using this
theorem setV_id {l : List Vt} (h : l.Pairwise LtV) : setV l = l := ltV_uniq (setV_sorted l) h (fun _ => setV_mem)
theorem setV_all {a b : List Vt} (ha : a.Pairwise LtV) : allV a b b.length = setV (a ++ b) :=
  ltV_uniq (allV_sorted ha _) (setV_sorted _) fun x => by rw [allV_mem, get_mem, setV_mem, List.mem_append]
theorem setV_put {a : List Vt} {v : Vt} (ha : a.Pairwise LtV) : putV a v = setV (a ++ [v]) :=
  ltV_uniq (putV_sorted ha) (setV_sorted _) fun x => by rw [putV_mem, setV_mem, List.mem_append, List.mem_singleton]; exact Or.comm
def pofOK (ts : List Blk) (ss : List Int) (l : List Vt) : Bool := votesOk ts ss l && decide ((setV l).length ≤ 60)
def pofR (ts : List Blk) (ss : List Int) (l : List Vt) : List Vt := if pofOK ts ss l = true then setV l else []
theorem votesOk_iff' {ts : List Blk} {ss : List Int} {vs : List Vt} : votesOk ts ss vs = true ↔ (Tree ts ∧ goodB ss = true) ∧ ∀ v ∈ vs, voteOk ts ss.length v = true := by
  rw [votesOk_iff]
  refine and_congr_right fun _ => ?_
  constructor
  · intro h v hv
    obtain ⟨k, hk, e⟩ := get_mem.2 hv
    rw [← e]; exact h k hk
  · intro h k hk
    rw [getV_at hk]; exact h _ (List.getElem_mem hk)
/-- The model looks at the list when it is put together. -/
theorem pool_set (ts : List Blk) (ss : List Int) (l : List Vt) : poolOk ts ss (setV l) = pofOK ts ss l := by
  rw [Bool.eq_iff_iff, poolOk_iff']
  unfold pofOK
  rw [Bool.and_eq_true, votesOk_iff', decide_eq_true_iff]
  constructor
  · rintro ⟨⟨h1, h2⟩, h3, _⟩
    exact ⟨⟨h1, fun v hv => h3 v (setV_mem.2 hv)⟩, h2⟩
  · rintro ⟨⟨h1, h2⟩, h3⟩
    exact ⟨⟨h1, h3⟩, fun v hv => h2 v (setV_mem.1 hv), setV_sorted l⟩
theorem pofR_len (ts : List Blk) (ss : List Int) (l : List Vt) : (pofR ts ss l).length ≤ 100 := by
  unfold pofR
  split
  · next h => unfold pofOK at h; rw [Bool.and_eq_true, decide_eq_true_iff] at h; omega
  · exact Nat.zero_le _
end Go.Proofs.Ythiegfbdmmpabaa
