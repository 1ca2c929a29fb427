/- What is proved here: plain facts on bit masks of at most ten bits, and the table of the ten bits in memory. No conditions. -/
import Derived.Test.YthiegfbdmmpabaaOwn
import Derived.IntWalk
namespace Go.Proofs.Ythiegfbdmmpabaa
open Go.RowKit

theorem ofInt_i64 (a : Nat) (ha : a < 4611686018427387904) : (BitVec.ofInt 64 (a : Int)).toNat = a := by
  rw [BitVec.toNat_ofInt]; omega
theorem or_i64 (a b : Nat) (ha : a < 4294967296) (hb : b < 4294967296) : bits .or .i64 (a : Int) (b : Int) = ((a ||| b : Nat) : Int) := by
  have hlt : a ||| b < 4294967296 := Nat.or_lt_two_pow (n := 32) ha hb
  show IntKind.i64.wrap ((BitVec.ofInt 64 (a : Int) ||| BitVec.ofInt 64 (b : Int)).toNat : Int) = _
  rw [BitVec.toNat_or, ofInt_i64 a (by omega), ofInt_i64 b (by omega)]
  exact IntWalk.i64_in _ ⟨by omega, by omega⟩
theorem and_i64 (a b : Nat) (ha : a < 4294967296) (hb : b < 4294967296) : bits .and .i64 (a : Int) (b : Int) = ((a &&& b : Nat) : Int) := by
  have hlt : a &&& b < 4294967296 := Nat.and_lt_two_pow (n := 32) _ hb
  show IntKind.i64.wrap ((BitVec.ofInt 64 (a : Int) &&& BitVec.ofInt 64 (b : Int)).toNat : Int) = _
  rw [BitVec.toNat_and, ofInt_i64 a (by omega), ofInt_i64 b (by omega)]
  exact IntWalk.i64_in _ ⟨by omega, by omega⟩

def bitN (k : Nat) : Nat := 2 ^ k
/-- The mask of some numbers. -/
def maskL (who : List Int) : Nat := who.foldl (fun m k => m ||| bitN k.toNat) 0
theorem maskL_step {who : List Int} {k : Nat} (hk : k < who.length) : maskL (who.take (k + 1)) = maskL (who.take k) ||| bitN (who[k]?.getD 0).toNat := by
  rw [List.take_succ_eq_append_getElem hk, List.getElem?_eq_getElem hk, Option.getD_some]
  unfold maskL
  rw [List.foldl_append]; rfl
theorem maskL_end {who : List Int} {k : Nat} (h : who.length ≤ k) : maskL (who.take k) = maskL who := by rw [List.take_of_length_le h]
theorem bitN_lt {k : Nat} (h : k ≤ 9) : bitN k < 1024 := Nat.pow_lt_pow_right (by omega) (show k < 10 by omega)
theorem wrap_bit {k : Nat} (h : k ≤ 9) : wrap64 ((2 : Int) ^ k) = (bitN k : Int) := by
  have e : (2 : Int) ^ k = (bitN k : Int) := by unfold bitN; rw [Int.natCast_pow]; rfl
  have := bitN_lt h
  rw [e]; unfold wrap64; omega
theorem maskL_lt {who : List Int} (h : risB who 0 9 = true) : ∀ k, k ≤ who.length → maskL (who.take k) < 1024 := by
  intro k
  induction k with
  | zero => intro _; simp [maskL]
  | succ k ih =>
    intro hk
    rw [maskL_step (by omega)]
    have := risB_in h (k := k) (by omega)
    exact Nat.or_lt_two_pow (n := 10) (ih (by omega)) (bitN_lt (by omega))

/-- The table voterBits, as its text lays it. -/
def voterL : List Int := [1, 2, 4, 8, 16, 32, 64, 128, 256, 512]
theorem voterL_get {k : Nat} (h : k < 10) : voterL[k]?.getD 0 = (bitN k : Int) := by
  have : k = 0 ∨ k = 1 ∨ k = 2 ∨ k = 3 ∨ k = 4 ∨ k = 5 ∨ k = 6 ∨ k = 7 ∨ k = 8 ∨ k = 9 := by omega
  rcases this with rfl | rfl | rfl | rfl | rfl | rfl | rfl | rfl | rfl | rfl <;> rfl
def tabCells : Array Value := (voterL.map fun z => Value.int .i64 z).toArray
theorem tabCells_get {k : Nat} (h : k < 10) : tabCells[k]? = some (.int .i64 (bitN k : Int)) := by
  rw [← voterL_get h]
  have h' : k < voterL.length := h
  simp [tabCells, List.getElem?_eq_getElem h']
/-- The table's block holds what its text lays. -/
def TabOk (w : World) : Prop := ∃ t fr, w.heap[0]? = some (.cells tabCells t fr)
theorem TabOk.pos {w : World} (h : TabOk w) : 0 < w.heap.size := by
  obtain ⟨t, fr, h⟩ := h
  exact (Array.getElem?_eq_some_iff.1 h).1
theorem TabOk.cell {w : World} (h : TabOk w) {i : Nat} (hi : i < 10) : w.cell? ⟨0, i, none⟩ = some (.int .i64 (bitN i : Int)) := by
  obtain ⟨t, fr, h⟩ := h
  simp [World.cell?, h, tabCells_get hi]
theorem TabOk.below {w w' : World} {B : Nat} (h : TabOk w) (hb : Below B w w') (hB : 0 < B) : TabOk w' := by
  obtain ⟨t, fr, h⟩ := h
  exact ⟨t, fr, (hb.block 0 hB).trans h⟩
theorem TabOk.drewN {w : World} (h : TabOk w) (n : Nat) : TabOk (w.drewN n) := h
end Go.Proofs.Ythiegfbdmmpabaa

/- What is proved here: what OfMask returns, in the program and in the model, at every integer. No conditions but that the table of bits holds what its text lays. -/
namespace Go.Proofs.Ythiegfbdmmpabaa
open Go.RowKit

/-- The numbers below k whose bits are set. -/
def ofL (m k : Nat) : List Int := ((List.range k).filter fun (i : Nat) => m.testBit i).map fun (i : Nat) => (i : Int)
theorem ofL_zero (m : Nat) : ofL m 0 = [] := rfl
theorem ofL_yes {m k : Nat} (h : m.testBit k = true) : ofL m (k + 1) = ofL m k ++ [(k : Int)] := by
  simp [ofL, List.range_succ, List.filter_append, h]
theorem ofL_no {m k : Nat} (h : m.testBit k = false) : ofL m (k + 1) = ofL m k := by
  simp [ofL, List.range_succ, List.filter_append, h]
theorem ofL_len (m k : Nat) : (ofL m k).length ≤ k := by
  unfold ofL
  rw [List.length_map]
  exact Nat.le_trans (List.length_filter_le _ _) (by simp)
theorem and_bit (m k : Nat) : m &&& bitN k = if m.testBit k = true then bitN k else 0 := by
  unfold bitN
  rw [nat_bit, Nat.testBit_eq_decide_div_mod_eq]
  rcases Nat.mod_two_eq_zero_or_one (m / 2 ^ k) with h | h <;> simp [h]
theorem bitN_pos (k : Nat) : 0 < bitN k := Nat.two_pow_pos k

def okM (mask : Int) : Bool := inB mask 0 1023
def ofR (mask : Int) : List Int := if okM mask = true then ofL mask.toNat 10 else []

theorem shr_bit (m k : Nat) (hm : m < 1024) : (bits .and .i64 ((m : Int) / 2 ^ k) 1 == 1) = m.testBit k := by
  have e : (m : Int) / 2 ^ k = ((m / 2 ^ k : Nat) : Int) := by rw [Int.natCast_ediv, Int.natCast_pow]; rfl
  have hle : m / 2 ^ k ≤ m := Nat.div_le_self _ _
  have e2 := and_i64 (m / 2 ^ k) 1 (by omega) (by omega)
  rw [e, show (1 : Int) = ((1 : Nat) : Int) from rfl, e2, nat_mask1, Nat.testBit_eq_decide_div_mod_eq]
  rcases Nat.mod_two_eq_zero_or_one (m / 2 ^ k) with h | h <;> simp [h]

end Go.Proofs.Ythiegfbdmmpabaa

/- What is proved here: what MaskOf returns, in the program and in the model, at every slice of integers. No conditions but that the table of bits holds what its text lays. -/
namespace Go.Proofs.Ythiegfbdmmpabaa
open Go.RowKit

def mOf (who : List Int) : Int := if risB who 0 9 = true then (maskL who : Int) else 0

end Go.Proofs.Ythiegfbdmmpabaa

/- What is proved here: what InBoth returns, in the program and in the model, at every two slices of integers. No conditions but that the table of bits holds what its text lays. -/
namespace Go.Proofs.Ythiegfbdmmpabaa
open Go.RowKit

/-- Two strictly rising lists with the same members are one list. -/
theorem sorted_ext : ∀ (l l' : List Int), l.Pairwise (· < ·) → l'.Pairwise (· < ·) → (∀ x, x ∈ l ↔ x ∈ l') → l = l'
  | [], [], _, _, _ => rfl
  | [], y :: l', _, _, h => by have := (h y).2 (by simp); cases this
  | x :: l, [], _, _, h => by have := (h x).1 (by simp); cases this
  | x :: l, y :: l', h1, h2, h => by
    rw [List.pairwise_cons] at h1 h2
    have hx : x = y ∨ x ∈ l' := by simpa using (h x).1 (by simp)
    have hy : y = x ∨ y ∈ l := by simpa using (h y).2 (by simp)
    have hxy : x = y := by
      rcases hx with hx | hx
      · exact hx
      · rcases hy with hy | hy
        · exact hy.symm
        · have a := h1.1 _ hy; have b := h2.1 _ hx; omega
    subst hxy
    rw [sorted_ext l l' h1.2 h2.2 (fun z => ?_)]
    have hz := h z
    simp only [List.mem_cons] at hz
    constructor
    · intro hl
      rcases hz.1 (.inr hl) with e | e
      · subst e; have := h1.1 _ hl; omega
      · exact e
    · intro hl
      rcases hz.2 (.inr hl) with e | e
      · subst e; have := h2.1 _ hl; omega
      · exact e

theorem ris_sorted {xs : List Int} {lo hi : Int} (h : risB xs lo hi = true) : xs.Pairwise (· < ·) := by
  rw [List.pairwise_iff_getElem]
  intro i j hi hj hij
  have h1 := ris_mono h (j - 1 - i) i (by omega)
  have h2 := (risAt_iff.1 (risB_iff.1 h j hj)).2 (by omega)
  rw [show i + (j - 1 - i) = j - 1 by omega] at h1
  have e1 : xs[i]?.getD 0 = xs[i] := by rw [List.getElem?_eq_getElem hi]; rfl
  have e2 : xs[j]?.getD 0 = xs[j] := by rw [List.getElem?_eq_getElem hj]; rfl
  omega
theorem ris_mem {xs : List Int} {lo hi : Int} (h : risB xs lo hi = true) {x : Int} (hx : x ∈ xs) : lo ≤ x ∧ x ≤ hi := by
  obtain ⟨k, hk, rfl⟩ := List.getElem_of_mem hx
  have := risB_in h hk
  rwa [List.getElem?_eq_getElem hk, Option.getD_some] at this

theorem ofL_mem {m k : Nat} {x : Int} : x ∈ ofL m k ↔ ∃ i : Nat, i < k ∧ m.testBit i = true ∧ x = (i : Int) := by
  unfold ofL
  simp only [List.mem_map, List.mem_filter, List.mem_range]
  constructor
  · rintro ⟨i, ⟨h1, h2⟩, rfl⟩; exact ⟨i, h1, h2, rfl⟩
  · rintro ⟨i, h1, h2, rfl⟩; exact ⟨i, ⟨h1, h2⟩, rfl⟩
theorem ofL_sorted (m k : Nat) : (ofL m k).Pairwise (· < ·) := by
  unfold ofL
  rw [List.pairwise_map]
  refine List.Pairwise.filter _ ?_
  exact List.Pairwise.imp (fun h => by omega) List.pairwise_lt_range

theorem bitN_test (n i : Nat) : (bitN n).testBit i = decide (n = i) := by unfold bitN; exact Nat.testBit_two_pow
theorem mask_test_from (who : List Int) (m0 i : Nat) : (who.foldl (fun m k => m ||| bitN k.toNat) m0).testBit i = (m0.testBit i || who.any fun k => k.toNat == i) := by
  induction who generalizing m0 with
  | nil => simp
  | cons k who ih =>
    rw [List.foldl_cons, ih, Nat.testBit_or, bitN_test, List.any_cons, Bool.or_assoc]
    rfl
theorem mask_test {who : List Int} (h : risB who 0 9 = true) (i : Nat) : (maskL who).testBit i = true ↔ (i : Int) ∈ who := by
  unfold maskL
  rw [mask_test_from]
  simp only [Nat.zero_testBit, Bool.false_or, List.any_eq_true, beq_iff_eq]
  constructor
  · rintro ⟨k, hk, rfl⟩
    have := ris_mem h hk
    rwa [Int.toNat_of_nonneg this.1]
  · intro hi; exact ⟨_, hi, by simp⟩
theorem maskL_lt_all {who : List Int} (h : risB who 0 9 = true) : maskL who < 1024 := by
  have := maskL_lt h who.length (Nat.le_refl _)
  rwa [maskL_end (Nat.le_refl _)] at this

def hasB (xs : List Int) (x : Int) : Bool := decide (x ∈ xs)
def bothL (a b : List Int) : List Int := a.filter (hasB b)
theorem bothL_masks {a b : List Int} (ha : risB a 0 9 = true) (hb : risB b 0 9 = true) : ofL (maskL a &&& maskL b) 10 = bothL a b := by
  refine sorted_ext _ _ (ofL_sorted _ _) (List.Pairwise.filter _ (ris_sorted ha)) (fun x => ?_)
  rw [ofL_mem]
  unfold bothL
  rw [List.mem_filter]
  constructor
  · rintro ⟨i, _, h2, rfl⟩
    rw [Nat.testBit_and, Bool.and_eq_true, mask_test ha, mask_test hb] at h2
    exact ⟨h2.1, by unfold hasB; simpa using h2.2⟩
  · rintro ⟨h1, h2⟩
    have hx := ris_mem ha h1
    have h2' : x ∈ b := by unfold hasB at h2; simpa using h2
    obtain ⟨i, rfl⟩ := Int.eq_ofNat_of_zero_le hx.1
    refine ⟨i, by omega, ?_, rfl⟩
    rw [Nat.testBit_and, Bool.and_eq_true, mask_test ha, mask_test hb]
    exact ⟨h1, h2'⟩
theorem has_yes {xs : List Int} {x : Int} {k : Nat} (hk : k < xs.length) (h : xs[k]?.getD 0 = x) : hasB xs x = true := by
  rw [List.getElem?_eq_getElem hk, Option.getD_some] at h
  unfold hasB; simp; exact h ▸ List.getElem_mem hk
theorem has_no {xs : List Int} {x : Int} (h : ∀ j, j < xs.length → xs[j]?.getD 0 ≠ x) : hasB xs x = false := by
  unfold hasB; simp; intro hx
  obtain ⟨k, hk, e⟩ := List.getElem_of_mem hx
  exact h k hk (by rw [List.getElem?_eq_getElem hk]; exact e)
theorem both_yes {a b : List Int} {k : Nat} (hk : k < a.length) (h : hasB b (a[k]?.getD 0) = true) : bothL (a.take (k + 1)) b = bothL (a.take k) b ++ [a[k]?.getD 0] := by
  rw [List.getElem?_eq_getElem hk, Option.getD_some] at *
  rw [List.take_succ_eq_append_getElem hk]
  unfold bothL
  rw [List.filter_append]; simp [h]
theorem both_no {a b : List Int} {k : Nat} (hk : k < a.length) (h : hasB b (a[k]?.getD 0) = false) : bothL (a.take (k + 1)) b = bothL (a.take k) b := by
  rw [List.getElem?_eq_getElem hk, Option.getD_some] at h
  rw [List.take_succ_eq_append_getElem hk]
  unfold bothL
  rw [List.filter_append]; simp [h]
theorem bothL_len (a b : List Int) : (bothL a b).length ≤ a.length := List.length_filter_le _ _
theorem both_take_len (a b : List Int) (k : Nat) : (bothL (a.take k) b).length ≤ k := Nat.le_trans (bothL_len _ _) (by simp; omega)

set_option maxHeartbeats 400000 in
theorem l1Has_any (A : Option Addr) (n c B : Nat) (xs : List Int) (x : Int) (w : World) (h : IntsAt w B A n xs) (hn : n ≤ 1048576) :
    Calls Try.prog 118 #[.slice A n c, .int .i64 x] w fun e w' => e = .returned (.bool (hasB xs x)) ∧ w = w' := by
  have hl' := Lib.hid h.1
  have hr := Lib.hid h; clear h
  go_enter Try.func118, Try.ntmps118
  go_wp2
  go_loop [9] (fun i => ∃ k : Nat, k ≤ n ∧ i = .int .i64 k ∧ Hid (∀ j, j < k → xs[j]?.getD 0 ≠ x)) (fun i => n - (intOf i).toNat)
  case atStart => exact ⟨0, Nat.zero_le _, rfl, Lib.hid (fun j hj => absurd hj (Nat.not_lt_zero _))⟩
  case round =>
    obtain ⟨k, hk, rfl, hall⟩ := hrel
    by_cases hlt : k < n
    · obtain ⟨b, off, rfl, _, hc⟩ := hr.out.2 k hlt
      cases hx : (xs[k]?.getD 0 == x)
      · go_wp2
        go_round
        case rel =>
          refine ⟨k + 1, by omega, by go_num, Lib.hid (fun j hj => ?_)⟩
          by_cases e : j = k
          · subst e; simpa using hx
          · exact hall.out j (by omega)
        case measure => simp [intOf]; omega
      · have hy := Lib.hid (has_yes (xs := xs) (x := x) (k := k) (by rw [hl'.out]; exact hlt) (by simpa using hx))
        go_wp2
        go_ret
        exact ⟨ret_bool hy.out.symm, rfl⟩
    · go_wp2
      go_ret
      exact ⟨ret_bool (has_no (fun j hj => hall.out j (by rw [hl'.out] at hj; omega))).symm, rfl⟩

end Go.Proofs.Ythiegfbdmmpabaa
