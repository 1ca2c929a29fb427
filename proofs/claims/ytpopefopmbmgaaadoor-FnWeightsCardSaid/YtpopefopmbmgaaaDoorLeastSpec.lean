/- What is proved here: what the model's LeastShared returns, at every slice of integers. No conditions. -/
import Derived.Test.YtpopefopmbmgaaaDoorLeastImpl
import Derived.Test.YtpopefopmbmgaaaDoorSmallSpec
namespace Go.Proofs.YtpopefopmbmgaaaDoor
open Go.RowKit

theorem ofL_vot10 {m n : Nat} (h : m < bitN n) (hn : n ≤ 10) : Vot n (ofL m 10) := by rw [ofL_ten h hn]; exact ofL_vot (Nat.le_refl _)
def lo2 (a b : Int) : Int := if a < b then a else b
theorem l1Least_any (a b : Int) (w : World) :
    Calls Tryd.prog 53 #[.int .i64 a, .int .i64 b] w fun e w' => e = .returned (.int .i64 (lo2 a b)) ∧ w = w' := by
  by_cases h : a < b
  · have hq := Lib.hid (show lo2 a b = a from if_pos h)
    go_enter Tryd.func53, Tryd.ntmps53
    go_wp2
    go_ret
    exact ⟨ret_int hq.out.symm, rfl⟩
  · have hq := Lib.hid (show lo2 a b = b from if_neg h)
    go_enter Tryd.func53, Tryd.ntmps53
    go_wp2
    go_ret
    exact ⟨ret_int hq.out.symm, rfl⟩

def SOut (s : List Int) (k : Nat) (x : Int) : Prop := InP s x ∧ ∀ a b, a < k → a < bitN s.length → b < bitN s.length → gq s a = true → gq s b = true → x ≤ gw s (a &&& b)
/-- 'lim': of the sub-masks of k those from lim on have been looked at. -/
def SIn (s : List Int) (k lim : Nat) (y : Int) : Prop := SOut s k y ∧ ∀ d, Sub d k → lim ≤ d → gq s (d ||| restN s.length k) = true → y ≤ gw s d
theorem sIn_start {s : List Int} {k : Nat} {x : Int} (h : SOut s k x) : SIn s k (k + 1) x := ⟨h, fun d hd hl _ => by have := sub_le hd; omega⟩
theorem sIn_no {s : List Int} {k b : Nat} {y : Int} (h : SIn s k (b + 1) y) (hq : gq s (b ||| restN s.length k) = false) : SIn s k b y :=
  ⟨h.1, fun d hd hl hg => by
    by_cases e : d = b
    · subst e; rw [hq] at hg; cases hg
    · exact h.2 d hd (by omega) hg⟩
theorem sIn_yes {s : List Int} {k b : Nat} {y : Int} (hk : k < bitN s.length) (hqk : gq s k = true) (hb : Sub b k) (h : SIn s k (b + 1) y) (hq : gq s (b ||| restN s.length k) = true) : SIn s k b (lo2 y (gw s b)) := by
  have hu : InP s (gw s b) := ⟨k, b ||| restN s.length k, hk, join_lt hk hb, hqk, hq, by rw [join_and hk hb]⟩
  have hle : lo2 y (gw s b) ≤ y ∧ lo2 y (gw s b) ≤ gw s b ∧ (lo2 y (gw s b) = y ∨ lo2 y (gw s b) = gw s b) := by unfold lo2; split <;> omega
  refine ⟨⟨?_, fun a c ha ha' hc qa qc => ?_⟩, fun d hd hl hg => ?_⟩
  · rcases hle.2.2 with e | e <;> rw [e]
    · exact h.1.1
    · exact hu
  · have := h.1.2 a c ha ha' hc qa qc; omega
  · by_cases e : d = b
    · subst e; exact hle.2.1
    · have := h.2 d hd (by omega) hg; omega
theorem sIn_next {s : List Int} {k b : Nat} {y : Int} (hb : Sub b k) (h : SIn s k b y) : SIn s k (((b - 1) &&& k) + 1) y :=
  ⟨h.1, fun d hd hl hg => h.2 d hd (by
    apply Classical.byContradiction
    intro hlt
    have := sub_next k b d hd hb (by omega)
    omega) hg⟩
theorem sIn_zero {s : List Int} {k b : Nat} {y : Int} (hb : b = 0) (h : SIn s k b y) : SIn s k 0 y := by subst hb; exact h
theorem sIn_end {s : List Int} {k : Nat} {y : Int} (hbd : Bds s) (h : SIn s k 0 y) : SOut s (k + 1) y :=
  ⟨h.1.1, fun a c ha ha' hc qa qc => by
    by_cases e : a = k
    · subst e
      exact h.2 _ (sub_and a c) (Nat.zero_le _) (gq_mono hbd (join_sup ha' hc) qc)
    · exact h.1.2 a c (by omega) ha' hc qa qc⟩
theorem sOut_no {s : List Int} {k : Nat} {x : Int} (h : SOut s k x) (hq : gq s k = false) : SOut s (k + 1) x :=
  ⟨h.1, fun a c ha ha' hc qa qc => by
    by_cases e : a = k
    · subst e; rw [hq] at qa; cases qa
    · exact h.2 a c (by omega) ha' hc qa qc⟩
theorem sOut_end {s : List Int} {x : Int} (h : SOut s (bitN s.length) x) : IsLeast s x :=
  ⟨h.1, fun a b ha hb qa qb => h.2 a b ha ha hb qa qb⟩

set_option maxHeartbeats 6400000 in
set_option maxRecDepth 100000 in
theorem specLeast_any (A : Option Addr) (n c : Nat) (s : List Int) (w : World) (h : IntsAt w w.heap.size A n s) (hn : n ≤ 1048576) :
    Calls Tryd.prog 23 #[.slice A n c] w (LsPost w s) := by
  cases hg : goodB s
  · have hf := Lib.hid (show LsPost w s (.returned (.tuple #[.int .i64 0, .bool false])) w from
      ⟨0, by rw [hg], (by rw [hg]; intro h; cases h), fun _ => rfl, Below.refl _ _⟩)
    go_enter Tryd.func23, Tryd.ntmps23
    go_wp2_with (go_at_call 16; refine (specGood_any _ _ _ w.heap.size s _ h hn).mono ?_; rintro e w' ⟨rfl, rfl⟩)
    go_ret2
    exact hf.out
  · have hl := Lib.hid h.1
    have hbd := Lib.hid (bds_of_good hg)
    have hn10 : n ≤ 10 := by have := (goodB_iff.1 hg).1.2; rw [hl.out] at this; omega
    have hN := bitN_ten hn10
    have hsh := pow_bit n hn10
    go_enter Tryd.func23, Tryd.ntmps23
    go_wp2_with (first
      | (go_at_call 16; refine (specGood_any _ _ _ w.heap.size s _ h hn).mono ?_; rintro e w' ⟨rfl, rfl⟩)
      | (go_at_call 51; refine (specSum_any _ _ _ w.heap.size s _ h hn hbd.out).mono ?_; rintro e w' ⟨rfl, rfl⟩))
    have hg' := Lib.hid hg; clear hg
    have h' := Lib.hid h; clear h
    go_loopw [5, 6] (fun v i wr => ∃ (k : Nat) (x : Int), k ≤ bitN n ∧ i = .int .i64 k ∧ v = .int .i64 x ∧ Hid (SOut s k x) ∧ Below w.heap.size w wr) (fun _ i _ => bitN n - (intOf i).toNat)
    case atStart => exact ⟨0, _, Nat.zero_le _, rfl, rfl, Lib.hid ⟨inP_total hbd.out, fun a b h => absurd h (Nat.not_lt_zero _)⟩, Below.refl _ _⟩
    case round =>
      obtain ⟨k, x, hk, rfl, rfl, hout, hbel⟩ := hrel
      by_cases hlt : k < bitN n
      · have hlenk := ofL_len k 10
        have i0 : IntsAt wr wr.heap.size A n s := (h'.out.below hbel).more hbel.size
        have hkl := Lib.hid (show k < bitN s.length by rw [hl.out]; exact hlt)
        have hgq := Lib.hid (gq_great (s := s) (m := k) (by rw [hl.out]; exact hn10) hkl.out)
        cases hx : greatB s (ofL k 10)
        · have hnx := Lib.hid (sOut_no hout.out (hgq.out.symm.trans hx))
          go_wp2_with fail
          refine (l1Mask_any k _ (by omega)).mono ?_
          rintro e w1 ⟨A1, n1, c1, rfl, o1, b1⟩
          have hn1 : n1 ≤ 10 := by rw [← o1.len]; exact hlenk
          have i1 : IntsAt w1 w1.heap.size A n s := (i0.below b1).more b1.size
          go_wp2_with fail
          refine (l1Great_any _ _ _ _ _ _ w1.heap.size s (ofL k 10) _ i1 o1.ints (by omega) hn hbd.out (ofL_vot10 hlt hn10)).mono ?_
          rintro e w2 ⟨rfl, rfl⟩
          have bb := hbel.trans (b1.mono hbel.size)
          go_wp2
          go_roundw
          case rel => exact ⟨k + 1, x, by omega, by go_num, rfl, hnx, bb⟩
          case measure => simp [intOf]; omega
        · have hqk := Lib.hid (hgq.out.symm.trans hx)
          go_wp2_with fail
          refine (l1Mask_any k _ (by omega)).mono ?_
          rintro e w1 ⟨A1, n1, c1, rfl, o1, b1⟩
          have hn1 : n1 ≤ 10 := by rw [← o1.len]; exact hlenk
          have i1 : IntsAt w1 w1.heap.size A n s := (i0.below b1).more b1.size
          go_wp2_with fail
          refine (l1Great_any _ _ _ _ _ _ w1.heap.size s (ofL k 10) _ i1 o1.ints (by omega) hn hbd.out (ofL_vot10 hlt hn10)).mono ?_
          rintro e w2 ⟨rfl, rfl⟩
          have bb := hbel.trans (b1.mono hbel.size)
          clear o1 b1 i1
          go_wp2
          go_loopw [5, 7] (fun v i w2 => ∃ (b : Nat) (y : Int), b ≤ k ∧ i = .int .i64 b ∧ v = .int .i64 y ∧ Hid (Sub b k) ∧ Hid (SIn s k (b + 1) y) ∧ Below w.heap.size w w2) (fun _ i _ => (intOf i).toNat)
          case atStart => exact ⟨k, x, Nat.le_refl _, rfl, rfl, Lib.hid (Nat.and_self k), Lib.hid (sIn_start hout.out), bb⟩
          case round =>
            obtain ⟨b, y, hbk, rfl, rfl, hsub, hin, hbel2⟩ := hrel
            have hrest := Lib.hid (show ((bitN n : Int) - 1 - (k : Int)) = ((restN n k : Nat) : Int) by unfold restN; omega)
            have hr1024 : restN n k < 1024 := by unfold restN; omega
            have hor := Lib.hid (or_i64 b (restN n k) (by omega) (by omega))
            have hjl := join_lt (n := n) (a := k) (b := b) hlt hsub.out
            have hjgq := Lib.hid (gq_great (s := s) (m := b ||| restN n k) (by rw [hl.out]; exact hn10) (by rw [hl.out]; exact hjl))
            have hlenj := ofL_len (b ||| restN n k) 10
            have hlenb := ofL_len b 10
            have hgwb := Lib.hid (show wtL s (ofL b 10) = gw s b by unfold gw; rw [hl.out, ofL_ten (n := n) (by omega) hn10])
            have i2 : IntsAt wr wr.heap.size A n s := (h'.out.below hbel2).more hbel2.size
            cases hx2 : greatB s (ofL (b ||| restN n k) 10)
            · have hin' := Lib.hid (sIn_no hin.out (by rw [hl.out]; exact hjgq.out.symm.trans hx2))
              go_wp2_with fail
              rw [hrest.out, hor.out]
              refine (l1Mask_any (b ||| restN n k) _ (by omega)).mono ?_
              rintro e w3 ⟨A3, n3, c3, rfl, o3, b3⟩
              have hn3 : n3 ≤ 10 := by rw [← o3.len]; exact hlenj
              have i3 : IntsAt w3 w3.heap.size A n s := (i2.below b3).more b3.size
              go_wp2_with fail
              refine (l1Great_any _ _ _ _ _ _ w3.heap.size s (ofL (b ||| restN n k) 10) _ i3 o3.ints (by omega) hn hbd.out (ofL_vot10 hjl hn10)).mono ?_
              rintro e w4 ⟨rfl, rfl⟩
              have bb2 := hbel2.trans (b3.mono hbel2.size)
              clear o3 b3 i3
              by_cases hb0 : b = 0
              · have hend := Lib.hid (sIn_end hbd.out (sIn_zero hb0 hin'.out))
                have hz : ((b : Int) == 0) = true := by rw [hb0]; rfl
                clear hb0
                go_wp2
                go_roundw
                case rel => exact ⟨k + 1, _, by omega, by go_num, rfl, hend, bb2⟩
                case measure => simp [intOf]; omega
              · have hnx := Lib.hid (sIn_next hsub.out hin'.out)
                have hz : ((b : Int) == 0) = false := by rw [beq_eq_false_iff_ne]; omega
                have hand2 := Lib.hid (show bits .and .i64 ((b : Int) - 1) (k : Int) = (((b - 1) &&& k : Nat) : Int) by
                  rw [show (b : Int) - 1 = ((b - 1 : Nat) : Int) by omega]; exact and_i64 _ _ (by omega) (by omega))
                have hle2 : (b - 1) &&& k ≤ b - 1 := Nat.and_le_left
                go_wp2
                go_roundw
                case rel => exact ⟨(b - 1) &&& k, _, by omega, by rw [hand2.out], rfl, Lib.hid (sub_of_bits fun i hi => by rw [Nat.testBit_and, Bool.and_eq_true] at hi; exact hi.2), hnx, bb2⟩
                case measure => rw [hand2.out]; simp [intOf]; omega
            · have hin' := Lib.hid (sIn_yes hkl.out hqk.out hsub.out hin.out (by rw [hl.out]; exact hjgq.out.symm.trans hx2))
              go_wp2_with fail
              rw [hrest.out, hor.out]
              refine (l1Mask_any (b ||| restN n k) _ (by omega)).mono ?_
              rintro e w3 ⟨A3, n3, c3, rfl, o3, b3⟩
              have hn3 : n3 ≤ 10 := by rw [← o3.len]; exact hlenj
              have i3 : IntsAt w3 w3.heap.size A n s := (i2.below b3).more b3.size
              go_wp2_with fail
              refine (l1Great_any _ _ _ _ _ _ w3.heap.size s (ofL (b ||| restN n k) 10) _ i3 o3.ints (by omega) hn hbd.out (ofL_vot10 hjl hn10)).mono ?_
              rintro e w4 ⟨rfl, rfl⟩
              have bb3 := hbel2.trans (b3.mono hbel2.size)
              go_wp2_with fail
              refine (l1Mask_any b _ (by omega)).mono ?_
              rintro e w4 ⟨A4, n4, c4, rfl, o4, b4⟩
              have hn4 : n4 ≤ 10 := by rw [← o4.len]; exact hlenb
              have i4 : IntsAt w4 w4.heap.size A n s := (i3.below b4).more b4.size
              go_wp2_with fail
              refine (specWeight_any _ _ _ _ _ _ w4.heap.size s (ofL b 10) _ i4 o4.ints (by omega) hn hbd.out (ofL_vot10 (by omega) hn10)).mono ?_
              rintro e w5 ⟨rfl, rfl⟩
              rw [hgwb.out]
              go_wp2_with fail
              refine (l1Least_any _ _ _).mono ?_
              rintro e w5 ⟨rfl, rfl⟩
              have bb2 := bb3.trans (b4.mono bb3.size)
              clear o3 b3 i3 o4 b4 i4
              by_cases hb0 : b = 0
              · have hend := Lib.hid (sIn_end hbd.out (sIn_zero hb0 hin'.out))
                have hz : ((b : Int) == 0) = true := by rw [hb0]; rfl
                clear hb0
                go_wp2
                go_roundw
                case rel => exact ⟨k + 1, _, by omega, by go_num, rfl, hend, bb2⟩
                case measure => simp [intOf]; omega
              · have hnx := Lib.hid (sIn_next hsub.out hin'.out)
                have hz : ((b : Int) == 0) = false := by rw [beq_eq_false_iff_ne]; omega
                have hand2 := Lib.hid (show bits .and .i64 ((b : Int) - 1) (k : Int) = (((b - 1) &&& k : Nat) : Int) by
                  rw [show (b : Int) - 1 = ((b - 1 : Nat) : Int) by omega]; exact and_i64 _ _ (by omega) (by omega))
                have hle2 : (b - 1) &&& k ≤ b - 1 := Nat.and_le_left
                go_wp2
                go_roundw
                case rel => exact ⟨(b - 1) &&& k, _, by omega, by rw [hand2.out], rfl, Lib.hid (sub_of_bits fun i hi => by rw [Nat.testBit_and, Bool.and_eq_true] at hi; exact hi.2), hnx, bb2⟩
                case measure => rw [hand2.out]; simp [intOf]; omega
      · have hkk : k = bitN n := by omega
        have hfin := Lib.hid (show IsLeast s x from sOut_end (by rw [hl.out, ← hkk]; exact hout.out))
        clear hkk
        go_wp2
        go_ret2
        exact ⟨x, by rw [hg'.out]; rfl, fun _ => hfin.out, (by rw [hg'.out]; intro h; cases h), hbel⟩
end Go.Proofs.YtpopefopmbmgaaaDoor
