/- What is proved here: what OfMask returns, in the program and in the model, at every integer. No conditions but that the table of bits holds what its text lays. -/
import Derived.Test.YtgdgajgfehjjdaaOwn
import Derived.Test.YtgdgajgfehjjdaaMasks
namespace Go.Proofs.Ytgdgajgfehjjdaa
open Go.RowKit

/-- The numbers below k whose bits are set. -/
def ofL (m k : Nat) : List Int := ((List.range k).filter fun (i : Nat) => m.testBit i).map fun (i : Nat) => (i : Int)
theorem ofL_zero (m : Nat) : ofL m 0 = [] := rfl
theorem ofL_yes {m k : Nat} (h : m.testBit k = true) : ofL m (k + 1) = ofL m k ++ [(k : Int)] := by
  simp [ofL, List.range_succ, List.filter_append, h]
theorem ofL_no {m k : Nat} (h : m.testBit k = false) : ofL m (k + 1) = ofL m k := by
  simp [ofL, List.range_succ, List.filter_append, h]
theorem ofL_len (m k : Nat) : (ofL m k).length ≤ k := by
  unfold ofL
  rw [List.length_map]
  exact Nat.le_trans (List.length_filter_le _ _) (by simp)
theorem and_bit (m k : Nat) : m &&& bitN k = if m.testBit k = true then bitN k else 0 := by
  unfold bitN
  rw [nat_bit, Nat.testBit_eq_decide_div_mod_eq]
  rcases Nat.mod_two_eq_zero_or_one (m / 2 ^ k) with h | h <;> simp [h]
theorem bitN_pos (k : Nat) : 0 < bitN k := Nat.two_pow_pos k

def okM (mask : Int) : Bool := inB mask 0 1023
def ofR (mask : Int) : List Int := if okM mask = true then ofL mask.toNat 10 else []

theorem shr_bit (m k : Nat) (hm : m < 1024) : (bits .and .i64 ((m : Int) / 2 ^ k) 1 == 1) = m.testBit k := by
  have e : (m : Int) / 2 ^ k = ((m / 2 ^ k : Nat) : Int) := by rw [Int.natCast_ediv, Int.natCast_pow]; rfl
  have hle : m / 2 ^ k ≤ m := Nat.div_le_self _ _
  have e2 := and_i64 (m / 2 ^ k) 1 (by omega) (by omega)
  rw [e, show (1 : Int) = ((1 : Nat) : Int) from rfl, e2, nat_mask1, Nat.testBit_eq_decide_div_mod_eq]
  rcases Nat.mod_two_eq_zero_or_one (m / 2 ^ k) with h | h <;> simp [h]

end Go.Proofs.Ytgdgajgfehjjdaa
