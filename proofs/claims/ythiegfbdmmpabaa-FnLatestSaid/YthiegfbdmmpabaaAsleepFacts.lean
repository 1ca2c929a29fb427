/- What is proved here: plain facts on how often voters vote, and on the voters that are asleep. No conditions. -/
import Derived.Test.YthiegfbdmmpabaaTrimFacts
import Derived.Test.YthiegfbdmmpabaaPutWalk
import Derived.Test.YthiegfbdmmpabaaBoth
namespace Go.Proofs.Ythiegfbdmmpabaa
open Go.RowKit

/-- How many of the first k votes are of the voter i. -/
def cntK (vs : List Vt) (i : Nat) : Nat → Nat
  | 0 => 0
  | k + 1 => if (getV vs k).1 = (i : Int) then cntK vs i k + 1 else cntK vs i k
theorem cntK_le (vs : List Vt) (i : Nat) : ∀ k, cntK vs i k ≤ k := by
  intro k
  induction k with
  | zero => exact Nat.le_refl _
  | succ k ih => simp only [cntK]; split <;> omega
theorem cnt_pos {vs : List Vt} {i : Nat} : ∀ k, 0 < cntK vs i k ↔ ∃ j, j < k ∧ (getV vs j).1 = (i : Int) := by
  intro k
  induction k with
  | zero => simp [cntK]
  | succ k ih =>
    simp only [cntK]
    split
    · next h => exact ⟨fun _ => ⟨k, by omega, h⟩, fun _ => by omega⟩
    · next h =>
      rw [ih]
      constructor
      · rintro ⟨j, a, b⟩; exact ⟨j, by omega, b⟩
      · rintro ⟨j, a, b⟩
        by_cases e : j = k
        · subst e; exact absurd b h
        · exact ⟨j, by omega, b⟩
def slpP (vs act : List Vt) (i : Nat) : Bool := decide (0 < cntK vs i vs.length) && !decide (0 < cntK act i act.length)
def slpK (vs act : List Vt) (k : Nat) : List Int := ((List.range k).filter (slpP vs act)).map fun (j : Nat) => (j : Int)
theorem slpK_step (vs act : List Vt) (k : Nat) : slpK vs act (k + 1) = if slpP vs act k = true then slpK vs act k ++ [(k : Int)] else slpK vs act k := by
  unfold slpK
  rw [List.range_succ, List.filter_append]
  split
  · next e => simp [e]
  · next e => simp [e]
theorem slpK_len (vs act : List Vt) (k : Nat) : (slpK vs act k).length ≤ k := by
  unfold slpK
  rw [List.length_map]
  exact Nat.le_trans (List.length_filter_le _ _) (by simp)
theorem slpK_up (vs act : List Vt) (k : Nat) : (slpK vs act k).Pairwise (· < ·) := by
  unfold slpK
  rw [List.pairwise_map]
  exact (List.pairwise_lt_range.filter _).imp (fun h => by omega)
theorem slpK_mem {vs act : List Vt} {k : Nat} {x : Int} : x ∈ slpK vs act k ↔ ∃ i : Nat, x = i ∧ i < k ∧ slpP vs act i = true := by
  unfold slpK
  simp only [List.mem_map, List.mem_filter, List.mem_range]
  constructor
  · rintro ⟨i, ⟨a, b⟩, rfl⟩; exact ⟨i, rfl, a, b⟩
  · rintro ⟨i, rfl, a, b⟩; exact ⟨i, ⟨a, b⟩, rfl⟩
/-- The voters of the first k votes, put one by one. -/
def awkK (l : List Vt) : Nat → List Int
  | 0 => []
  | k + 1 => putL (awkK l k) (getV l k).1
/-- Those of the first k votes that are not in aw. -/
def outK (aw : List Int) (l : List Vt) : Nat → List Int
  | 0 => []
  | k + 1 => if hasB aw (getV l k).1 = true then outK aw l k else putL (outK aw l k) (getV l k).1
theorem put_mem {l : List Int} {x y : Int} : y ∈ putL l x ↔ y = x ∨ y ∈ l := by
  unfold putL
  split
  · next h =>
    have hx : x ∈ l := List.mem_iff_getElem?.2 ⟨_, h⟩
    exact ⟨fun h => .inr h, fun h => h.elim (fun e => by rw [e]; exact hx) id⟩
  · rw [List.mem_append, List.mem_cons]
    have : y ∈ l ↔ y ∈ l.take (putK l x) ∨ y ∈ l.drop (putK l x) := by rw [← List.mem_append, List.take_append_drop]
    rw [this]
    constructor
    · rintro (h | h | h)
      · exact .inr (.inl h)
      · exact .inl h
      · exact .inr (.inr h)
    · rintro (h | h | h)
      · exact .inr (.inl h)
      · exact .inl h
      · exact .inr (.inr h)
theorem awk_mem {l : List Vt} {x : Int} : ∀ k, x ∈ awkK l k ↔ ∃ j, j < k ∧ (getV l j).1 = x := by
  intro k
  induction k with
  | zero => simp [awkK]
  | succ k ih =>
    simp only [awkK]
    rw [put_mem, ih]
    constructor
    · rintro (h | ⟨j, a, b⟩)
      · exact ⟨k, by omega, h.symm⟩
      · exact ⟨j, by omega, b⟩
    · rintro ⟨j, a, b⟩
      by_cases e : j = k
      · subst e; exact .inl b.symm
      · exact .inr ⟨j, by omega, b⟩
theorem awk_len (l : List Vt) : ∀ k, (awkK l k).length ≤ k := by
  intro k
  induction k with
  | zero => simp [awkK]
  | succ k ih => simp only [awkK]; have := putL_len (awkK l k) (getV l k).1; omega
theorem out_len (aw : List Int) (l : List Vt) : ∀ k, (outK aw l k).length ≤ k := by
  intro k
  induction k with
  | zero => simp [outK]
  | succ k ih => simp only [outK]; split <;> (have := putL_len (outK aw l k) (getV l k).1; omega)
theorem out_up (aw : List Int) (l : List Vt) : ∀ k, (outK aw l k).Pairwise (· < ·) := by
  intro k
  induction k with
  | zero => exact List.Pairwise.nil
  | succ k ih => simp only [outK]; split; exact ih; exact putL_sorted ih
theorem out_mem {aw : List Int} {l : List Vt} {x : Int} : ∀ k, x ∈ outK aw l k ↔ x ∉ aw ∧ ∃ j, j < k ∧ (getV l j).1 = x := by
  intro k
  induction k with
  | zero => simp [outK]
  | succ k ih =>
    simp only [outK]
    by_cases h : hasB aw (getV l k).1 = true
    · have hm : (getV l k).1 ∈ aw := by unfold hasB at h; simpa using h
      rw [if_pos h, ih]
      refine and_congr_right fun hx => ?_
      constructor
      · rintro ⟨j, a, b⟩; exact ⟨j, by omega, b⟩
      · rintro ⟨j, a, b⟩
        by_cases e : j = k
        · subst e; rw [b] at hm; exact absurd hm hx
        · exact ⟨j, by omega, b⟩
    · have hm : (getV l k).1 ∉ aw := by unfold hasB at h; simpa using h
      rw [if_neg h, put_mem, ih]
      constructor
      · rintro (e | ⟨a, j, b, c⟩)
        · subst e; exact ⟨hm, k, by omega, rfl⟩
        · exact ⟨a, j, by omega, c⟩
      · rintro ⟨a, j, b, c⟩
        by_cases e : j = k
        · subst e; exact .inl c.symm
        · exact .inr ⟨a, j, by omega, c⟩
theorem up_uniq {ss ts : List Int} (hs : ss.Pairwise (· < ·)) (ht : ts.Pairwise (· < ·)) (h : ∀ x, x ∈ ss ↔ x ∈ ts) : ss = ts := by
  have n1 : ss.Nodup := hs.imp (fun h e => by omega)
  have n2 : ts.Nodup := ht.imp (fun h e => by omega)
  exact List.Perm.eq_of_pairwise (le := (· ≤ ·)) (fun a b _ _ h1 h2 => by omega) (hs.imp (fun h => Int.le_of_lt h)) (ht.imp (fun h => Int.le_of_lt h)) ((List.perm_ext_iff_of_nodup n1 n2).2 h)
theorem slp_out {vs act : List Vt} {m : Nat} (hw : ∀ k, k < vs.length → ∃ i : Nat, (getV vs k).1 = i ∧ i < m) : outK (awkK act act.length) vs vs.length = slpK vs act m := by
  refine up_uniq (out_up _ _ _) (slpK_up _ _ _) fun x => ?_
  rw [out_mem, slpK_mem, awk_mem]
  unfold slpP
  constructor
  · rintro ⟨h1, j, h2, h3⟩
    obtain ⟨i, e, him⟩ := hw j h2
    refine ⟨i, by omega, him, ?_⟩
    rw [decide_eq_true (cnt_pos _ |>.2 ⟨j, h2, e⟩), decide_eq_false (fun h => h1 (by obtain ⟨q, a, b⟩ := cnt_pos _ |>.1 h; exact ⟨q, a, by omega⟩))]; rfl
  · rintro ⟨i, rfl, him, h⟩
    rw [Bool.and_eq_true, Bool.not_eq_true', decide_eq_true_iff, decide_eq_false_iff_not] at h
    obtain ⟨j, a, b⟩ := cnt_pos _ |>.1 h.1
    exact ⟨fun ⟨q, c, d⟩ => h.2 (cnt_pos _ |>.2 ⟨q, c, d⟩), j, a, b⟩
def asleepR (ts : List Blk) (ss : List Int) (vs : List Vt) (now keep : Int) : List Int := if trimOK ts ss vs now keep = true then slpK vs (actR ts ss vs now keep) ss.length else []
theorem asleepR_len (ts : List Blk) (ss : List Int) (vs : List Vt) (now keep : Int) : (asleepR ts ss vs now keep).length ≤ 100 := by
  unfold asleepR
  split
  · next h =>
    have h1 := (goodB_len (poolOk_iff.1 (trimOK_iff.1 h).1).1.1.2).2
    have := slpK_len vs (actR ts ss vs now keep) ss.length
    omega
  · exact Nat.zero_le _
end Go.Proofs.Ythiegfbdmmpabaa
