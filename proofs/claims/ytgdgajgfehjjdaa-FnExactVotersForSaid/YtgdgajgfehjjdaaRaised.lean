/- What is proved here: what the program's leaps by jump pointers lead to; AncestorOf of the program and of the model. No conditions. -/
import Derived.Test.YtgdgajgfehjjdaaJumps
namespace Go.Proofs.Ytgdgajgfehjjdaa
open Go.RowKit

theorem bit_set {u k : Nat} (h : u.testBit k = true) : u % 2 ^ (k + 1) = u % 2 ^ k + 2 ^ k := by
  rw [Nat.mod_pow_succ, Nat.testBit_eq_decide_div_mod_eq, decide_eq_true_iff] at *
  rw [h]; omega
theorem bit_clear {u k : Nat} (h : u.testBit k = false) : u % 2 ^ (k + 1) = u % 2 ^ k := by
  rw [Nat.mod_pow_succ]
  rw [Nat.testBit_eq_decide_div_mod_eq, decide_eq_false_iff_not] at h
  have : u / 2 ^ k % 2 = 0 := by omega
  rw [this]; omega
theorem shr_bits : ∀ u : Nat, u < 32 → ∀ k : Nat, k < 5 → (bits .and .i64 ((u : Int) / 2 ^ k) 1 == 1) = u.testBit k := by decide +kernel
theorem leap_bit {ts : List Blk} (h : Tree ts) {b u k : Nat} (hb : b < ts.length) (hu : u ≤ dep ts b) (hs : u.testBit k = true) : jmp ts (anc ts b (u % 2 ^ k)) k = anc ts b (u % 2 ^ (k + 1)) := by
  have hm := bit_set hs
  have hle : u % 2 ^ (k + 1) ≤ u := Nat.mod_le _ _
  have hd := dep_anc h hb (u % 2 ^ k) (by omega)
  unfold jmp
  rw [if_pos (by omega), hm, anc_add]

set_option maxHeartbeats 400000 in
theorem raised_any (cs : Array Value) (ts : List Blk) (b u : Nat) (w : World) (hc : IsJumps ts cs) (ht : Tree ts) (hb : b < ts.length) (hu : u ≤ dep ts b) :
    Calls Try.prog 136 #[.agg cs, .int .i64 b, .int .i64 u] w (UpPost w (.int .i64 (anc ts b u))) := by
  have hu32 : u < 32 := by have := dep_le ht hb; have := ht.few; omega
  have hfew := ht.few
  have hcell : ∀ i, i < ts.length * 5 → (w.alloc (.cells cs 152)).cell? ⟨w.heap.size, i, none⟩ = some (.int .i64 (jmpC ts i)) := fun i hi => by
    rw [cell_of_row _ _ _ _ _ _ (heap_alloc_new _ _)]; exact hc.2 i hi
  have hbel : Below w.heap.size w (w.alloc (.cells cs 152)) := (Below.refl _ _).alloc (Nat.le_refl _) _
  have hcl := Lib.hid hcell
  have hbl := Lib.hid hbel
  clear hcell hbel
  go_enter Try.func136, Try.ntmps136
  go_wp2_with fail
  generalize w.alloc (.cells cs 152) = wx at hcl hbl ⊢
  clear hc
  go_loop [1, 7, 8] (fun x _ i => ∃ k : Nat, k ≤ 5 ∧ i = .int .i64 k ∧ x = .int .i64 (anc ts b (u % 2 ^ k) : Nat)) (fun _ _ i => 5 - (intOf i).toNat)
  case atStart => exact ⟨0, by omega, rfl, by rw [Nat.pow_zero, Nat.mod_one]; rfl⟩
  case round =>
    obtain ⟨k, hk, rfl, rfl⟩ := hrel
    by_cases hlt : k < 5
    · have hsb := shr_bits u hu32 k hlt
      have hal := anc_lt ht hb (u % 2 ^ k)
      have hcc := hcl.out (anc ts b (u % 2 ^ k) * 5 + k) (by omega)
      cases hbit : u.testBit k
      · rw [hbit] at hsb
        have hst := Lib.hid (bit_clear hbit)
        clear hbit hcc
        go_wp2_with fail
        go_round
        case rel => exact ⟨k + 1, by omega, by go_num, by rw [hst.out]⟩
        case measure => simp [intOf]; omega
      · rw [hbit] at hsb
        rw [jmpC_at ts hlt, leap_bit ht hb hu hbit] at hcc
        clear hbit
        have hal2 : anc ts b (u % 2 ^ k) < 24 := by omega
        go_wp2_with fail
        go_round
        case rel => exact ⟨k + 1, by omega, by go_num, rfl⟩
        case measure => simp [intOf]; omega
    · have hk5 : k = 5 := by omega
      subst hk5
      have hfin := Lib.hid (show anc ts b (u % 2 ^ 5) = anc ts b u by rw [Nat.mod_eq_of_lt (by omega)])
      go_wp2_with fail
      go_ret
      exact ⟨ret_int (by rw [hfin.out]), hbl.out⟩

/-- AncestorOf, as the document says it. -/
def ancOk (ts : List Blk) (b u : Int) : Bool := okK ts b && inB u 0 (dep ts b.toNat)
def ancR (ts : List Blk) (b u : Int) : Int := if ancOk ts b u then (anc ts b.toNat u.toNat : Nat) else 0

theorem wayV_get {ts : List Blk} (h : Tree ts) {k : Nat} (hk : k < ts.length) (j : Nat) (hj : j ≤ dep ts k) : (wayV ts k)[dep ts k - j]?.getD 0 = (anc ts k j : Nat) := by
  unfold wayV
  rw [List.getElem?_map, way_get h hk j hj]; rfl

end Go.Proofs.Ytgdgajgfehjjdaa
