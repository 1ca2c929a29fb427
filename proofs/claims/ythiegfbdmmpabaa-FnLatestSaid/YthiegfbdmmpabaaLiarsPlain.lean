/- What is proved here: plain facts on the voters that say two things: the list with repetitions, compacted, is the list put together one by one. No conditions. -/
import Derived.Test.YthiegfbdmmpabaaVoteFacts
import Derived.Test.YthiegfbdmmpabaaPutWalk
import Derived.Lib.SlicesCompact
namespace Go.Proofs.Ythiegfbdmmpabaa
open Go.RowKit

def liarAt (vs : List Vt) (i : Nat) : Bool := decide (0 < i) && ((getV vs (i - 1)).1 == (getV vs i).1 && (getV vs (i - 1)).2.1 == (getV vs i).2.1)
def rawL (vs : List Vt) : Nat → List Int
  | 0 => []
  | k + 1 => if liarAt vs k = true then rawL vs k ++ [(getV vs k).1] else rawL vs k
def putsL (vs : List Vt) : Nat → List Int
  | 0 => []
  | k + 1 => if liarAt vs k = true then putL (putsL vs k) (getV vs k).1 else putsL vs k
theorem rawL_len (vs : List Vt) (k : Nat) : (rawL vs k).length ≤ k := by
  induction k with
  | zero => exact Nat.le_refl _
  | succ k ih =>
    simp only [rawL]
    split
    · simp; exact ih
    · omega
theorem putsL_len (vs : List Vt) (k : Nat) : (putsL vs k).length ≤ k := by
  induction k with
  | zero => exact Nat.le_refl _
  | succ k ih =>
    simp only [putsL]
    split
    · have := putL_len (putsL vs k) (getV vs k).1; omega
    · omega

theorem upTo_prefix {zs : List Int} {x : Int} : ∀ m, m ≤ zs.length → Lib.compactUpTo (zs ++ [x]).toArray m = Lib.compactUpTo zs.toArray m := by
  intro m
  induction m with
  | zero => intro _; rfl
  | succ m ih =>
    intro hm
    have e : ∀ j, j < zs.length → (zs ++ [x]).toArray[j]! = zs.toArray[j]! := fun j hj => by
      rw [getElem!_pos (zs ++ [x]).toArray j (by simp; omega), getElem!_pos zs.toArray j (by simpa using hj)]
      simp [List.getElem_append_left hj]
    have hk : Lib.keeps (zs ++ [x]).toArray m = Lib.keeps zs.toArray m := by
      unfold Lib.keeps
      rw [e m (by omega), e (m - 1) (by omega)]
    rw [Lib.compactUpTo_succ, Lib.compactUpTo_succ, ih (by omega), hk, e m (by omega)]
theorem compact_nil : Lib.compact ([] : List Int) = [] := rfl
theorem compact_same {zs : List Int} {x : Int} : Lib.compact (zs ++ [x] ++ [x]) = Lib.compact (zs ++ [x]) := by
  have hl : (zs ++ [x] ++ [x]).length = (zs ++ [x]).length + 1 := by simp
  unfold Lib.compact
  rw [hl, Lib.compactUpTo_succ, upTo_prefix _ (Nat.le_refl _), if_neg, List.append_nil]
  unfold Lib.keeps
  simp
theorem compact_new {zs : List Int} {x y : Int} (h : x ≠ y) : Lib.compact (zs ++ [x] ++ [y]) = Lib.compact (zs ++ [x]) ++ [y] := by
  have hl : (zs ++ [x] ++ [y]).length = (zs ++ [x]).length + 1 := by simp
  unfold Lib.compact
  rw [hl, Lib.compactUpTo_succ, upTo_prefix _ (Nat.le_refl _), if_pos]
  · rw [getElem!_pos _ _ (by simp)]; simp
  · unfold Lib.keeps
    simp
    exact fun e => h e.symm
theorem compact_one (x : Int) : Lib.compact [x] = [x] := rfl
theorem putK_all {l : List Int} {x : Int} (h : ∀ y ∈ l, y < x) : putK l x = l.length := by
  induction l with
  | nil => rfl
  | cons y l ih =>
    unfold putK
    rw [if_pos (h y (List.mem_cons_self ..)), ih (fun z hz => h z (List.mem_cons_of_mem _ hz))]; rfl
theorem putL_snoc {l : List Int} {x : Int} (h : ∀ y ∈ l, y < x) : putL l x = l ++ [x] := by
  unfold putL; rw [putK_all h]; simp
theorem putK_last {l : List Int} {x : Int} (h : ∀ y ∈ l, y < x) : putK (l ++ [x]) x = l.length := by
  induction l with
  | nil => simp [putK]
  | cons y l ih =>
    show putK (y :: (l ++ [x])) x = _
    unfold putK
    rw [if_pos (h y (List.mem_cons_self ..)), ih (fun z hz => h z (List.mem_cons_of_mem _ hz))]; rfl
theorem putL_last {l : List Int} {x : Int} (h : ∀ y ∈ l, y < x) : putL (l ++ [x]) x = l ++ [x] := by
  unfold putL; rw [putK_last h]; simp

theorem less_who {a b : Vt} (h : lessV a b = true) : a.1 ≤ b.1 := by
  unfold lessV at h
  simp only [Bool.or_eq_true, Bool.and_eq_true, decide_eq_true_iff, beq_iff_eq] at h
  rcases h with h | ⟨h, _⟩ <;> omega
/-- What is known after k votes. -/
theorem liars_inv {vs : List Vt} (hs : ∀ k, k < vs.length → k ≠ 0 → lessV (getV vs (k - 1)) (getV vs k) = true) : ∀ k, k ≤ vs.length → Lib.compact (rawL vs k) = putsL vs k ∧
    ((rawL vs k = [] ∧ putsL vs k = []) ∨ ∃ r c x, rawL vs k = r ++ [x] ∧ putsL vs k = c ++ [x] ∧ (∀ y ∈ c, y < x) ∧ 0 < k ∧ x ≤ (getV vs (k - 1)).1) := by
  intro k
  induction k with
  | zero => intro _; exact ⟨rfl, .inl ⟨rfl, rfl⟩⟩
  | succ k ih =>
    intro hk
    obtain ⟨h1, h2⟩ := ih (by omega)
    simp only [rawL, putsL, Nat.add_sub_cancel]
    cases hl : liarAt vs k
    · simp only [if_false, Bool.false_eq_true]
      refine ⟨h1, ?_⟩
      rcases h2 with h2 | ⟨r, c, x, e1, e2, e3, e4, e5⟩
      · exact .inl h2
      · exact .inr ⟨r, c, x, e1, e2, e3, by omega, Int.le_trans e5 (less_who (hs k (by omega) (by omega)))⟩
    · simp only [if_true]
      rcases h2 with ⟨e1, e2⟩ | ⟨r, c, x, e1, e2, e3, e4, e5⟩
      · rw [e1, e2]
        refine ⟨by rw [putL_snoc (fun y hy => by cases hy)]; rfl, .inr ⟨[], [], _, rfl, by rw [putL_snoc (fun y hy => by cases hy)], (fun y hy => by cases hy), by omega, Int.le_refl _⟩⟩
      · have hle := Int.le_trans e5 (less_who (hs k (by omega) (by omega)))
        rw [e1] at h1
        rw [e1, e2]
        by_cases hx : x = (getV vs k).1
        · rw [← hx]
          refine ⟨by rw [compact_same, h1, e2, putL_last e3], .inr ⟨r ++ [x], c, x, rfl, putL_last e3, e3, by omega, by rw [hx]; exact Int.le_refl _⟩⟩
        · have hlt : ∀ y ∈ c ++ [x], y < (getV vs k).1 := fun y hy => by
            rw [List.mem_append, List.mem_singleton] at hy
            rcases hy with hy | hy
            · have := e3 y hy; omega
            · omega
          refine ⟨by rw [compact_new hx, h1, e2, putL_snoc hlt], .inr ⟨r ++ [x], c ++ [x], _, rfl, putL_snoc hlt, hlt, by omega, Int.le_refl _⟩⟩
/-- The program's list is the model's. -/
theorem liars_eq {vs : List Vt} (hs : ∀ k, k < vs.length → k ≠ 0 → lessV (getV vs (k - 1)) (getV vs k) = true) : Lib.compact (rawL vs vs.length) = putsL vs vs.length := (liars_inv hs _ (Nat.le_refl _)).1
end Go.Proofs.Ythiegfbdmmpabaa
