/- What is proved here: what OfMask returns, in the program and in the model, at every integer. No conditions but that the table of bits holds what its text lays. -/
import Derived.Test.YtpopefopmbmgaaaDoorOwn
import Derived.Test.YtpopefopmbmgaaaDoorMasks
namespace Go.Proofs.YtpopefopmbmgaaaDoor
open Go.RowKit

/-- The numbers below k whose bits are set. -/
def ofL (m k : Nat) : List Int := ((List.range k).filter fun (i : Nat) => m.testBit i).map fun (i : Nat) => (i : Int)
theorem ofL_zero (m : Nat) : ofL m 0 = [] := rfl
theorem ofL_yes {m k : Nat} (h : m.testBit k = true) : ofL m (k + 1) = ofL m k ++ [(k : Int)] := by
  simp [ofL, List.range_succ, List.filter_append, h]
theorem ofL_no {m k : Nat} (h : m.testBit k = false) : ofL m (k + 1) = ofL m k := by
  simp [ofL, List.range_succ, List.filter_append, h]
theorem ofL_len (m k : Nat) : (ofL m k).length ≤ k := by
  unfold ofL
  rw [List.length_map]
  exact Nat.le_trans (List.length_filter_le _ _) (by simp)
theorem and_bit (m k : Nat) : m &&& bitN k = if m.testBit k = true then bitN k else 0 := by
  unfold bitN
  rw [nat_bit, Nat.testBit_eq_decide_div_mod_eq]
  rcases Nat.mod_two_eq_zero_or_one (m / 2 ^ k) with h | h <;> simp [h]
theorem bitN_pos (k : Nat) : 0 < bitN k := Nat.two_pow_pos k

def okM (mask : Int) : Bool := inB mask 0 1023
def ofR (mask : Int) : List Int := if okM mask = true then ofL mask.toNat 10 else []

theorem idx0 (w : World) : (Instr.index 49 (.agg tabCells) (.int .i64 ((0 : Nat) : Int))).run Tryd.prog w = .ok (.int .i64 (bitN 0 : Int)) w := by kernel_rfl
theorem idx1 (w : World) : (Instr.index 49 (.agg tabCells) (.int .i64 ((1 : Nat) : Int))).run Tryd.prog w = .ok (.int .i64 (bitN 1 : Int)) w := by kernel_rfl
theorem idx2 (w : World) : (Instr.index 49 (.agg tabCells) (.int .i64 ((2 : Nat) : Int))).run Tryd.prog w = .ok (.int .i64 (bitN 2 : Int)) w := by kernel_rfl
theorem idx3 (w : World) : (Instr.index 49 (.agg tabCells) (.int .i64 ((3 : Nat) : Int))).run Tryd.prog w = .ok (.int .i64 (bitN 3 : Int)) w := by kernel_rfl
theorem idx4 (w : World) : (Instr.index 49 (.agg tabCells) (.int .i64 ((4 : Nat) : Int))).run Tryd.prog w = .ok (.int .i64 (bitN 4 : Int)) w := by kernel_rfl
theorem idx5 (w : World) : (Instr.index 49 (.agg tabCells) (.int .i64 ((5 : Nat) : Int))).run Tryd.prog w = .ok (.int .i64 (bitN 5 : Int)) w := by kernel_rfl
theorem idx6 (w : World) : (Instr.index 49 (.agg tabCells) (.int .i64 ((6 : Nat) : Int))).run Tryd.prog w = .ok (.int .i64 (bitN 6 : Int)) w := by kernel_rfl
theorem idx7 (w : World) : (Instr.index 49 (.agg tabCells) (.int .i64 ((7 : Nat) : Int))).run Tryd.prog w = .ok (.int .i64 (bitN 7 : Int)) w := by kernel_rfl
theorem idx8 (w : World) : (Instr.index 49 (.agg tabCells) (.int .i64 ((8 : Nat) : Int))).run Tryd.prog w = .ok (.int .i64 (bitN 8 : Int)) w := by kernel_rfl
theorem idx9 (w : World) : (Instr.index 49 (.agg tabCells) (.int .i64 ((9 : Nat) : Int))).run Tryd.prog w = .ok (.int .i64 (bitN 9 : Int)) w := by kernel_rfl
theorem idx_tab (k : Nat) (hk : k < 10) (w : World) : (Instr.index 49 (.agg tabCells) (.int .i64 (k : Int))).run Tryd.prog w = .ok (.int .i64 (bitN k : Int)) w := by
  have : k = 0 ∨ k = 1 ∨ k = 2 ∨ k = 3 ∨ k = 4 ∨ k = 5 ∨ k = 6 ∨ k = 7 ∨ k = 8 ∨ k = 9 := by omega
  rcases this with rfl | rfl | rfl | rfl | rfl | rfl | rfl | rfl | rfl | rfl
  · exact idx0 w
  · exact idx1 w
  · exact idx2 w
  · exact idx3 w
  · exact idx4 w
  · exact idx5 w
  · exact idx6 w
  · exact idx7 w
  · exact idx8 w
  · exact idx9 w

set_option maxHeartbeats 800000 in
set_option maxRecDepth 100000 in
theorem implOf_any (mask : Int) (w : World) (ht : TabOk w) :
    Calls Tryd.prog 17 #[.int .i64 mask] w (RetOwn w (okM mask) (ofR mask)) := by
  by_cases h1 : mask < 0
  · have hk : okM mask = false := inB_low h1
    have hf := Lib.hid (show RetOwn w (okM mask) (ofR mask) (.returned (.tuple #[.slice none 0 0, .bool false])) w by
      unfold ofR; rw [hk]; exact retOwn_nil w false)
    clear hk
    go_enter Tryd.func17, Tryd.ntmps17
    go_wp2
    go_ret2
    exact hf.out
  · by_cases h2 : 1024 ≤ mask
    · have hk : okM mask = false := inB_high (by omega)
      have hf := Lib.hid (show RetOwn w (okM mask) (ofR mask) (.returned (.tuple #[.slice none 0 0, .bool false])) w by
        unfold ofR; rw [hk]; exact retOwn_nil w false)
      clear hk
      go_enter Tryd.func17, Tryd.ntmps17
      go_wp2
      go_ret2
      exact hf.out
    · have hk : okM mask = true := inB_true (by omega) (by omega)
      have hR := Lib.hid (show ofR mask = ofL mask.toNat 10 by unfold ofR; rw [hk]; rfl)
      have hk' := Lib.hid hk; clear hk
      obtain ⟨m, rfl⟩ := Int.eq_ofNat_of_zero_le (show 0 ≤ mask by omega)
      have hm : m < 1024 := by omega
      rw [Int.toNat_natCast] at hR
      obtain ⟨t0, fr0, hblk⟩ := ht
      obtain ⟨i0, hi0, hz0, hz1, hz2⟩ := info_parts info3
      go_enter Tryd.func17, Tryd.ntmps17
      go_wp2_with (refine wpList_load_row rfl 49 _ rfl 0 rfl t0 _ fr0 _ hblk Tryd.underlying49 rfl (by kernel_rfl) ?_)
      clear hblk
      go_loopw [4, 14] (fun v i wr => ∃ k : Nat, k ≤ 10 ∧ i = .int .i64 k ∧ wr.ownsRow w.heap.size 3 1 v (ofL m k).length ((ofL m k).map (Value.int .i64)) ∧ Below w.heap.size w wr) (fun _ i _ => 10 - (intOf i).toNat)
      case atStart => exact ⟨0, by omega, rfl, World.ownsRow_nil _ _ _ _, Below.refl _ _⟩
      case round =>
        obtain ⟨k, hk, rfl, hown, hbel⟩ := hrel
        by_cases hlt : k < 10
        · have hidx := fun W => idx_tab k hlt W
          have hand := and_i64 m (bitN k) (by omega) (by have := bitN_lt (k := k) (by omega); omega)
          rw [and_bit] at hand
          have hpos := bitN_pos k
          have hlen := ofL_len m k
          cases hb : m.testBit k
          · rw [hb] at hand
            have hne : (bits .and .i64 (m : Int) (bitN k : Int) != 0) = false := by rw [hand]; rfl
            have hs := Lib.hid (ofL_no hb)
            clear hb hand
            have hown' := Lib.hid hown; clear hown
            go_wp2
            go_roundw
            case rel => exact ⟨k + 1, by omega, by go_num, by rw [hs.out]; exact hown'.out, hbel⟩
            case measure => simp [intOf]; omega
          · rw [hb] at hand
            have hne : (bits .and .i64 (m : Int) (bitN k : Int) != 0) = true := by rw [hand]; simp; omega
            have hs := Lib.hid (ofL_yes hb)
            clear hb hand
            go_wp2_with (at_builtin; refine wpList_append_own _ rfl _ _ 23 rfl w.heap.size 3 i0 (.int .i64 0) 1 8 Tryd.underlying23 hi0 hz0 hz1 hz2 rfl (by decide) _ _ _ rfl (hown.alloc _) ⟨wr.heap.size, 0, none⟩ 1 1 [.int .i64 (k : Int)] rfl rfl ?c1 ?c2 ?c3 ?c4 ?c5 ?_)
            case c1 =>
              intro j u hj
              match j, hj with
              | 0, hj => simp at hj; subst hj; simp [Addr.add]
            case c2 => intro u hu; simp at hu; subst hu; rfl
            case c3 => unfold maxLen; omega
            case c4 => omega
            case c5 => have := hbel.size; simp; omega
            intro v' w1 hown1 hgrow _
            have hbel1 : Below w.heap.size w w1 := (hbel.alloc hbel.size _).grown hgrow (by simp; have := hbel.size; omega) (fun g hg => (hown.lt g hg).1)
            have hown1' := Lib.hid hown1; clear hown1 hgrow
            go_wp2
            go_roundw
            case rel =>
              refine ⟨k + 1, by omega, by go_num, ?_, hbel1⟩
              have := hown1'.out
              rw [hs.out]
              simpa using this
            case measure => simp [intOf]; omega
        · have hkk : k = 10 := by omega
          subst hkk
          obtain ⟨A, c, rfl, hoa⟩ := OwnAt.of_owns hown
          have hoa' := Lib.hid hoa
          have hlt' : ¬ ((10 : Nat) : Int) < 10 := by decide
          clear hown hoa
          go_wp2
          go_ret2
          exact ⟨A, _, c, by rw [hk'.out]; rfl, by rw [hR.out]; exact hoa'.out, hbel⟩

theorem shr_bit (m k : Nat) (hm : m < 1024) : (bits .and .i64 ((m : Int) / 2 ^ k) 1 == 1) = m.testBit k := by
  have e : (m : Int) / 2 ^ k = ((m / 2 ^ k : Nat) : Int) := by rw [Int.natCast_ediv, Int.natCast_pow]; rfl
  have hle : m / 2 ^ k ≤ m := Nat.div_le_self _ _
  have e2 := and_i64 (m / 2 ^ k) 1 (by omega) (by omega)
  rw [e, show (1 : Int) = ((1 : Nat) : Int) from rfl, e2, nat_mask1, Nat.testBit_eq_decide_div_mod_eq]
  rcases Nat.mod_two_eq_zero_or_one (m / 2 ^ k) with h | h <;> simp [h]

set_option maxHeartbeats 800000 in
set_option maxRecDepth 100000 in
theorem l1Mask_any (m : Nat) (w : World) (hm : m < 1024) :
    Calls Tryd.prog 52 #[.int .i64 (m : Int)] w (RetSl w (ofL m 10)) := by
  obtain ⟨i0, hi0, hz0, hz1, hz2⟩ := info_parts info3
  go_enter Tryd.func52, Tryd.ntmps52
  go_wp2
  go_loopw [3, 4] (fun v i wr => ∃ k : Nat, k ≤ 10 ∧ i = .int .i64 k ∧ wr.ownsRow w.heap.size 3 1 v (ofL m k).length ((ofL m k).map (Value.int .i64)) ∧ Below w.heap.size w wr) (fun _ i _ => 10 - (intOf i).toNat)
  case atStart => exact ⟨0, by omega, rfl, World.ownsRow_nil _ _ _ _, Below.refl _ _⟩
  case round =>
    obtain ⟨k, hk, rfl, hown, hbel⟩ := hrel
    by_cases hlt : k < 10
    · have hlen := ofL_len m k
      have hsb := shr_bit m k hm
      cases hb : m.testBit k
      · rw [hb] at hsb
        have hs := Lib.hid (ofL_no hb)
        clear hb
        have hown' := Lib.hid hown; clear hown
        go_wp2
        go_roundw
        case rel => exact ⟨k + 1, by omega, by go_num, by rw [hs.out]; exact hown'.out, hbel⟩
        case measure => simp [intOf]; omega
      · rw [hb] at hsb
        have hs := Lib.hid (ofL_yes hb)
        clear hb
        go_wp2_with (at_builtin; refine wpList_append_own _ rfl _ _ 23 rfl w.heap.size 3 i0 (.int .i64 0) 1 8 Tryd.underlying23 hi0 hz0 hz1 hz2 rfl (by decide) _ _ _ rfl (hown.alloc _) ⟨wr.heap.size, 0, none⟩ 1 1 [.int .i64 (k : Int)] rfl rfl ?c1 ?c2 ?c3 ?c4 ?c5 ?_)
        case c1 =>
          intro j u hj
          match j, hj with
          | 0, hj => simp at hj; subst hj; simp [Addr.add]
        case c2 => intro u hu; simp at hu; subst hu; rfl
        case c3 => unfold maxLen; omega
        case c4 => omega
        case c5 => have := hbel.size; simp; omega
        intro v' w1 hown1 hgrow _
        have hbel1 : Below w.heap.size w w1 := (hbel.alloc hbel.size _).grown hgrow (by simp; have := hbel.size; omega) (fun g hg => (hown.lt g hg).1)
        have hown1' := Lib.hid hown1; clear hown1 hgrow
        go_wp2
        go_roundw
        case rel =>
          refine ⟨k + 1, by omega, by go_num, ?_, hbel1⟩
          have := hown1'.out
          rw [hs.out]
          simpa using this
        case measure => simp [intOf]; omega
    · have hkk : k = 10 := by omega
      subst hkk
      obtain ⟨A, c, rfl, hoa⟩ := OwnAt.of_owns hown
      have hoa' := Lib.hid hoa
      have hlt' : ¬ ((10 : Nat) : Int) < 10 := by decide
      clear hown hoa
      go_wp2
      go_ret
      exact ⟨A, _, c, rfl, hoa'.out, hbel⟩

theorem specOf_any (mask : Int) (w : World) :
    Calls Tryd.prog 25 #[.int .i64 mask] w (RetOwn w (okM mask) (ofR mask)) := by
  cases hk : inB mask 0 1023
  · have hf := Lib.hid (show RetOwn w (okM mask) (ofR mask) (.returned (.tuple #[.slice none 0 0, .bool false])) w by
      unfold ofR okM; rw [hk]; exact retOwn_nil w false)
    go_enter Tryd.func25, Tryd.ntmps25
    go_wp2_with (go_at_call 46; refine (l1In_any _ _ _ _).mono ?_; rintro e w' ⟨rfl, rfl⟩)
    go_ret2
    exact hf.out
  · have hR := Lib.hid (show ofR mask = ofL mask.toNat 10 by unfold ofR okM; rw [hk]; rfl)
    have hk' := Lib.hid (show okM mask = true from hk)
    obtain ⟨m, rfl⟩ := Int.eq_ofNat_of_zero_le (inB_iff.1 hk).1
    have hm : m < 1024 := by have := (inB_iff.1 hk).2; omega
    rw [Int.toNat_natCast] at hR
    go_enter Tryd.func25, Tryd.ntmps25
    go_wp2_with (go_at_call 46; refine (l1In_any _ _ _ _).mono ?_; rintro e w' ⟨rfl, rfl⟩)
    refine (l1Mask_any m _ hm).mono ?_
    rintro e w1 ⟨A, n, c, rfl, ho, hb⟩
    have ho' := Lib.hid ho; clear ho
    go_wp2
    go_ret2
    exact ⟨A, n, c, by rw [hk'.out]; rfl, by rw [hR.out]; exact ho'.out, hb⟩
end Go.Proofs.YtpopefopmbmgaaaDoor
