/- What is proved here: the voters whose last votes stand for a block or one below it, in rising order; the blocks for which more than half of the stake stands. No conditions but the pool's validity. -/
import Derived.Test.YthiegfbdmmpabaaWeighFacts
import Derived.Test.YthiegfbdmmpabaaAbove
namespace Go.Proofs.Ythiegfbdmmpabaa
open Go.RowKit

def forP (ts : List Blk) (b : Nat) (v : Vt) : Bool := abv ts b v.2.2.toNat
def forL (ts : List Blk) (l : List Vt) (b : Nat) : List Int := (l.filter (forP ts b)).map (·.1)
def forK (ts : List Blk) (l : List Vt) (b k : Nat) : List Int := forL ts (l.take k) b
theorem forK_len (ts : List Blk) (l : List Vt) (b k : Nat) : (forK ts l b k).length ≤ l.length := by
  unfold forK forL
  rw [List.length_map]
  refine Nat.le_trans (List.length_filter_le _ _) ?_
  rw [List.length_take]; exact Nat.min_le_right _ _
theorem forK_step {ts : List Blk} {l : List Vt} {b k : Nat} (h : k < l.length) : forK ts l b (k + 1) = if forP ts b (getV l k) = true then forK ts l b k ++ [(getV l k).1] else forK ts l b k := by
  unfold forK forL
  rw [take_getV h, List.filter_append]
  split
  · next e => simp [e]
  · next e => simp [e]
theorem forK_end {ts : List Blk} {l : List Vt} {b k : Nat} (h : l.length ≤ k) : forK ts l b k = forL ts l b := by
  unfold forK; rw [List.take_of_length_le h]
/-- In rising order of the voters. -/
def WhoUp (l : List Vt) : Prop := (l.map (·.1)).Pairwise (· < ·)
theorem lat_up {ts : List Blk} {ss : List Int} {vs : List Vt} (h : poolOk ts ss vs = true) : WhoUp (latList vs) := latL_up (poolOk_iff.1 h).2.2 _ (Nat.le_refl _)
theorem forL_up {ts : List Blk} {l : List Vt} {b : Nat} (h : WhoUp l) : (forL ts l b).Pairwise (· < ·) := by
  unfold forL
  unfold WhoUp at h
  rw [List.pairwise_map] at h ⊢
  exact h.filter _
theorem forK_below {ts : List Blk} {l : List Vt} {b k : Nat} (h : WhoUp l) (hk : k < l.length) : ∀ y ∈ forK ts l b k, y < (getV l k).1 := by
  intro y hy
  unfold forK forL at hy
  obtain ⟨v, hv, e⟩ := List.mem_map.1 hy
  have hv := (List.mem_filter.1 hv).1
  obtain ⟨i, hi, e2⟩ := List.mem_iff_getElem.1 hv
  rw [List.length_take] at hi
  rw [List.getElem_take] at e2
  unfold WhoUp at h
  have := List.pairwise_iff_getElem.1 h i k (by simp; omega) (by simpa using hk) (by omega)
  rw [List.getElem_map, List.getElem_map, e2] at this
  unfold getV
  rw [List.getElem?_eq_getElem hk, Option.getD_some, ← e]
  exact this
theorem forK_put {ts : List Blk} {l : List Vt} {b k : Nat} (h : WhoUp l) (hk : k < l.length) : putL (forK ts l b k) (getV l k).1 = forK ts l b k ++ [(getV l k).1] := putL_snoc (forK_below h hk)
def forOK (ts : List Blk) (ss : List Int) (vs : List Vt) (b : Int) : Bool := poolOk ts ss vs && inB b 0 ((ts.length : Int) - 1)
def forR (ts : List Blk) (ss : List Int) (vs : List Vt) (b : Int) : List Int := if forOK ts ss vs b = true then forL ts (latList vs) b.toNat else []
theorem forOK_iff {ts : List Blk} {ss : List Int} {vs : List Vt} {b : Int} : forOK ts ss vs b = true ↔ poolOk ts ss vs = true ∧ ∃ k : Nat, b = k ∧ k < ts.length := by
  unfold forOK
  rw [Bool.and_eq_true, inB_iff]
  exact and_congr_right fun _ => ⟨fun h => ⟨b.toNat, by omega, by omega⟩, fun ⟨k, h1, h2⟩ => by omega⟩
theorem forR_len (ts : List Blk) (ss : List Int) (vs : List Vt) (b : Int) : (forR ts ss vs b).length ≤ 100 := by
  unfold forR
  split
  · next h =>
    have h1 := lat_60 (forOK_iff.1 h).1
    unfold forL
    rw [List.length_map]
    exact Nat.le_trans (List.length_filter_le _ _) (by omega)
  · exact Nat.zero_le _
/-- Rising numbers of voters: a group, as chapter 1 has it. -/
theorem ris_of_up {l : List Int} {m : Nat} (h : l.Pairwise (· < ·)) (hb : ∀ x ∈ l, ∃ i : Nat, x = i ∧ i < m) : risB l 0 ((m : Int) - 1) = true := by
  rw [risB_iff]
  intro k hk
  rw [risAt_iff]
  obtain ⟨i, h1, h2⟩ := hb _ (List.getElem_mem hk)
  rw [List.getElem?_eq_getElem hk, Option.getD_some]
  refine ⟨by omega, fun h0 => ?_⟩
  rw [List.getElem?_eq_getElem (show k - 1 < l.length by omega), Option.getD_some]
  exact List.pairwise_iff_getElem.1 h (k - 1) k (by omega) hk (by omega)
theorem forL_mem {ts : List Blk} {ss : List Int} {vs : List Vt} (h : poolOk ts ss vs = true) (b : Nat) : ∀ x ∈ forL ts (latList vs) b, ∃ i : Nat, x = i ∧ i < ss.length := by
  intro x hx
  unfold forL at hx
  obtain ⟨v, hv, e⟩ := List.mem_map.1 hx
  obtain ⟨j, hj, e2⟩ := List.mem_iff_getElem.1 (List.mem_filter.1 hv).1
  obtain ⟨⟨i, h1, h2⟩, _⟩ := lat_of h j hj
  rw [show getV (latList vs) j = (latList vs)[j] from by unfold getV; rw [List.getElem?_eq_getElem hj, Option.getD_some], e2, e] at h1
  exact ⟨i, h1, h2⟩
theorem forL_of {ts : List Blk} {ss : List Int} {vs : List Vt} (h : poolOk ts ss vs = true) (b : Nat) : ofB ss (forL ts (latList vs) b) = true := by
  unfold ofB
  rw [(poolOk_iff.1 h).1.1.2, ris_of_up (forL_up (lat_up h)) (forL_mem h b)]; rfl
end Go.Proofs.Ythiegfbdmmpabaa
