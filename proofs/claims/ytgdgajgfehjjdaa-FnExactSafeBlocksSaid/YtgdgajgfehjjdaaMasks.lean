/- What is proved here: plain facts on bit masks of at most ten bits, and the table of the ten bits in memory. No conditions. -/
import Derived.Test.YtgdgajgfehjjdaaGroup
import Derived.IntWalk
namespace Go.Proofs.Ytgdgajgfehjjdaa
open Go.RowKit

theorem ofInt_i64 (a : Nat) (ha : a < 4611686018427387904) : (BitVec.ofInt 64 (a : Int)).toNat = a := by
  rw [BitVec.toNat_ofInt]; omega
theorem or_i64 (a b : Nat) (ha : a < 4294967296) (hb : b < 4294967296) : bits .or .i64 (a : Int) (b : Int) = ((a ||| b : Nat) : Int) := by
  have hlt : a ||| b < 4294967296 := Nat.or_lt_two_pow (n := 32) ha hb
  show IntKind.i64.wrap ((BitVec.ofInt 64 (a : Int) ||| BitVec.ofInt 64 (b : Int)).toNat : Int) = _
  rw [BitVec.toNat_or, ofInt_i64 a (by omega), ofInt_i64 b (by omega)]
  exact IntWalk.i64_in _ ⟨by omega, by omega⟩
theorem and_i64 (a b : Nat) (ha : a < 4294967296) (hb : b < 4294967296) : bits .and .i64 (a : Int) (b : Int) = ((a &&& b : Nat) : Int) := by
  have hlt : a &&& b < 4294967296 := Nat.and_lt_two_pow (n := 32) _ hb
  show IntKind.i64.wrap ((BitVec.ofInt 64 (a : Int) &&& BitVec.ofInt 64 (b : Int)).toNat : Int) = _
  rw [BitVec.toNat_and, ofInt_i64 a (by omega), ofInt_i64 b (by omega)]
  exact IntWalk.i64_in _ ⟨by omega, by omega⟩

def bitN (k : Nat) : Nat := 2 ^ k
/-- The mask of some numbers. -/
def maskL (who : List Int) : Nat := who.foldl (fun m k => m ||| bitN k.toNat) 0
theorem maskL_step {who : List Int} {k : Nat} (hk : k < who.length) : maskL (who.take (k + 1)) = maskL (who.take k) ||| bitN (who[k]?.getD 0).toNat := by
  rw [List.take_succ_eq_append_getElem hk, List.getElem?_eq_getElem hk, Option.getD_some]
  unfold maskL
  rw [List.foldl_append]; rfl
theorem maskL_end {who : List Int} {k : Nat} (h : who.length ≤ k) : maskL (who.take k) = maskL who := by rw [List.take_of_length_le h]
theorem bitN_lt {k : Nat} (h : k ≤ 9) : bitN k < 1024 := Nat.pow_lt_pow_right (by omega) (show k < 10 by omega)
theorem wrap_bit {k : Nat} (h : k ≤ 9) : wrap64 ((2 : Int) ^ k) = (bitN k : Int) := by
  have e : (2 : Int) ^ k = (bitN k : Int) := by unfold bitN; rw [Int.natCast_pow]; rfl
  have := bitN_lt h
  rw [e]; unfold wrap64; omega
theorem maskL_lt {who : List Int} (h : risB who 0 9 = true) : ∀ k, k ≤ who.length → maskL (who.take k) < 1024 := by
  intro k
  induction k with
  | zero => intro _; simp [maskL]
  | succ k ih =>
    intro hk
    rw [maskL_step (by omega)]
    have := risB_in h (k := k) (by omega)
    exact Nat.or_lt_two_pow (n := 10) (ih (by omega)) (bitN_lt (by omega))

/-- The table voterBits, as its text lays it. -/
def voterL : List Int := [1, 2, 4, 8, 16, 32, 64, 128, 256, 512]
theorem voterL_get {k : Nat} (h : k < 10) : voterL[k]?.getD 0 = (bitN k : Int) := by
  have : k = 0 ∨ k = 1 ∨ k = 2 ∨ k = 3 ∨ k = 4 ∨ k = 5 ∨ k = 6 ∨ k = 7 ∨ k = 8 ∨ k = 9 := by omega
  rcases this with rfl | rfl | rfl | rfl | rfl | rfl | rfl | rfl | rfl | rfl <;> rfl
def tabCells : Array Value := (voterL.map fun z => Value.int .i64 z).toArray
theorem tabCells_get {k : Nat} (h : k < 10) : tabCells[k]? = some (.int .i64 (bitN k : Int)) := by
  rw [← voterL_get h]
  have h' : k < voterL.length := h
  simp [tabCells, List.getElem?_eq_getElem h']
/-- The table's block holds what its text lays. -/
def TabOk (w : World) : Prop := ∃ t fr, w.heap[0]? = some (.cells tabCells t fr)
theorem TabOk.pos {w : World} (h : TabOk w) : 0 < w.heap.size := by
  obtain ⟨t, fr, h⟩ := h
  exact (Array.getElem?_eq_some_iff.1 h).1
theorem TabOk.cell {w : World} (h : TabOk w) {i : Nat} (hi : i < 10) : w.cell? ⟨0, i, none⟩ = some (.int .i64 (bitN i : Int)) := by
  obtain ⟨t, fr, h⟩ := h
  simp [World.cell?, h, tabCells_get hi]
theorem TabOk.below {w w' : World} {B : Nat} (h : TabOk w) (hb : Below B w w') (hB : 0 < B) : TabOk w' := by
  obtain ⟨t, fr, h⟩ := h
  exact ⟨t, fr, (hb.block 0 hB).trans h⟩
theorem TabOk.drewN {w : World} (h : TabOk w) (n : Nat) : TabOk (w.drewN n) := h
end Go.Proofs.Ytgdgajgfehjjdaa
