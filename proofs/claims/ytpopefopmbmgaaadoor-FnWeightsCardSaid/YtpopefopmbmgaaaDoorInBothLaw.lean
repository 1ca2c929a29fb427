/- What is proved here: the law on InBoth returns true at every two slices of integers, and writes nothing that was there. No conditions but that the table of bits holds what its text lays. -/
import Derived.Test.YtpopefopmbmgaaaDoorBoth
namespace Go.Proofs.YtpopefopmbmgaaaDoor
open Go.RowKit

def bothOk (a b : List Int) : Bool := risB a 0 9 && risB b 0 9
def bothR (a b : List Int) : List Int := if bothOk a b = true then bothL a b else []
theorem bothR_len (a b : List Int) : (bothR a b).length ≤ a.length := by
  unfold bothR; split
  · exact bothL_len _ _
  · simp

set_option maxHeartbeats 400000 in
theorem specBoth_any (A A' : Option Addr) (n m c c' : Nat) (a b : List Int) (w : World) (ha : IntsAt w w.heap.size A n a) (hb : IntsAt w w.heap.size A' m b) (hn : n ≤ 1048576) (hm : m ≤ 1048576) :
    Calls Tryd.prog 34 #[.slice A n c, .slice A' m c'] w (RetOwn w (bothOk a b) (bothR a b)) := by
  cases h1 : risB a 0 9
  · have hf := Lib.hid (show RetOwn w (bothOk a b) (bothR a b) (.returned (.tuple #[.slice none 0 0, .bool false])) w by
      unfold bothR bothOk; rw [h1]; exact retOwn_nil w false)
    go_enter Tryd.func34, Tryd.ntmps34
    go_wp2_with (go_at_call 58; refine (l1Group_any _ _ _ w.heap.size a _ ha hn).mono ?_; rintro e w' ⟨rfl, rfl⟩)
    go_ret2
    exact hf.out
  · cases h2 : risB b 0 9
    · have hf := Lib.hid (show RetOwn w (bothOk a b) (bothR a b) (.returned (.tuple #[.slice none 0 0, .bool false])) w by
        unfold bothR bothOk; rw [h1, h2]; exact retOwn_nil w false)
      go_enter Tryd.func34, Tryd.ntmps34
      go_wp2_with fail
      refine (l1Group_any _ _ _ w.heap.size a _ ha hn).mono ?_; rintro e w' ⟨rfl, rfl⟩
      go_wp2_with fail
      refine (l1Group_any _ _ _ w.heap.size b _ hb hm).mono ?_; rintro e w' ⟨rfl, rfl⟩
      go_wp2
      go_ret2
      exact hf.out
    · have hk := Lib.hid (show bothOk a b = true by unfold bothOk; rw [h1, h2]; rfl)
      have hR := Lib.hid (show bothR a b = bothL a b by unfold bothR; rw [hk.out]; rfl)
      go_enter Tryd.func34, Tryd.ntmps34
      go_wp2_with fail
      refine (l1Group_any _ _ _ w.heap.size a _ ha hn).mono ?_; rintro e w' ⟨rfl, rfl⟩
      go_wp2_with fail
      refine (l1Group_any _ _ _ w.heap.size b _ hb hm).mono ?_; rintro e w' ⟨rfl, rfl⟩
      go_wp2_with fail
      refine (l1Both_any _ _ _ _ _ _ a b _ ha hb hn hm).mono ?_
      rintro e w1 ⟨A0, n0, c0, rfl, ho, hbl⟩
      have ho' := Lib.hid ho; clear ho
      go_wp2
      go_ret2
      exact ⟨A0, n0, c0, by rw [hk.out]; rfl, by rw [hR.out]; exact ho'.out, hbl⟩

set_option maxHeartbeats 400000 in
theorem implBoth_any (A A' : Option Addr) (n m c c' : Nat) (a b : List Int) (w : World) (ha : IntsAt w w.heap.size A n a) (hb : IntsAt w w.heap.size A' m b) (hn : n ≤ 1048576) (hm : m ≤ 1048576) (ht : TabOk w) :
    Calls Tryd.prog 19 #[.slice A n c, .slice A' m c'] w (RetOwn w (bothOk a b) (bothR a b)) := by
  cases h1 : risB a 0 9
  · have hf := Lib.hid (show RetOwn w (bothOk a b) (bothR a b) (.returned (.tuple #[.slice none 0 0, .bool false])) w by
      unfold bothR bothOk; rw [h1]; exact retOwn_nil w false)
    go_enter Tryd.func19, Tryd.ntmps19
    go_wp2_with fail
    refine (implMask_any _ _ _ w.heap.size a _ ha hn ht).mono ?_; rintro e w' ⟨rfl, rfl⟩
    go_wp2_with fail
    refine (implMask_any _ _ _ w.heap.size b _ hb hm ht).mono ?_; rintro e w' ⟨rfl, rfl⟩
    go_wp2
    go_ret2
    exact hf.out
  · cases h2 : risB b 0 9
    · have hf := Lib.hid (show RetOwn w (bothOk a b) (bothR a b) (.returned (.tuple #[.slice none 0 0, .bool false])) w by
        unfold bothR bothOk; rw [h1, h2]; exact retOwn_nil w false)
      go_enter Tryd.func19, Tryd.ntmps19
      go_wp2_with fail
      refine (implMask_any _ _ _ w.heap.size a _ ha hn ht).mono ?_; rintro e w' ⟨rfl, rfl⟩
      go_wp2_with fail
      refine (implMask_any _ _ _ w.heap.size b _ hb hm ht).mono ?_; rintro e w' ⟨rfl, rfl⟩
      go_wp2
      go_ret2
      exact hf.out
    · have hk := Lib.hid (show bothOk a b = true by unfold bothOk; rw [h1, h2]; rfl)
      have l1 := maskL_lt_all h1
      have l2 := maskL_lt_all h2
      have hlt : maskL a &&& maskL b < 1024 := Nat.and_lt_two_pow (n := 10) _ l2
      have hkm := Lib.hid (show okM ((maskL a &&& maskL b : Nat) : Int) = true from inB_true (by omega) (by omega))
      have hR := Lib.hid (show ofR ((maskL a &&& maskL b : Nat) : Int) = bothR a b by
        unfold ofR bothR; rw [hkm.out, hk.out, if_pos rfl, if_pos rfl, Int.toNat_natCast, bothL_masks h1 h2])
      have hma := Lib.hid (show mOf a = maskL a by unfold mOf; rw [h1]; rfl)
      have hmb := Lib.hid (show mOf b = maskL b by unfold mOf; rw [h2]; rfl)
      have hand := Lib.hid (and_i64 (maskL a) (maskL b) (by omega) (by omega))
      clear l1 l2 hlt
      go_enter Tryd.func19, Tryd.ntmps19
      go_wp2_with fail
      refine (implMask_any _ _ _ w.heap.size a _ ha hn ht).mono ?_; rintro e w' ⟨rfl, rfl⟩
      go_wp2_with fail
      refine (implMask_any _ _ _ w.heap.size b _ hb hm ht).mono ?_; rintro e w' ⟨rfl, rfl⟩
      go_wp2_with fail
      rw [hma.out, hmb.out, hand.out]
      refine (implOf_any _ _ ht).mono ?_
      rintro e w1 ⟨A0, n0, c0, rfl, ho, hbl⟩
      have ho' := Lib.hid ho; clear ho
      go_wp2
      go_ret2
      exact ⟨A0, n0, c0, by rw [hk.out, hkm.out]; rfl, by rw [← hR.out]; exact ho'.out, hbl⟩

set_option maxHeartbeats 6400000 in
set_option maxRecDepth 100000 in
theorem lawInBoth (A A' : Option Addr) (n m c c' : Nat) (a b : List Int) (w : World) (ha : IntsAt w w.heap.size A n a) (hb : IntsAt w w.heap.size A' m b) (hnn : n ≤ maxLen) (hmm : m ≤ maxLen) (ht : TabOk w) :
    Calls Tryd.prog 5 #[.slice A n c, .slice A' m c'] w fun e w' => e = .returned (.bool true) ∧ Below w.heap.size w w' := by
  unfold maxLen at hmm hnn
  by_cases hn : n ≤ 1048576
  · by_cases hm : m ≤ 1048576
    · have hla := Lib.hid ha.1
      have hlb := Lib.hid hb.1
      have hlen := bothR_len a b
      rw [ha.1] at hlen
      have hq1 : (bothOk a b != bothOk a b) = false := by simp
      have hqr : eqB (bothR a b) (bothR a b) = true := eqB_yes rfl (fun _ _ => rfl)
      have hqa : eqB a a = true := eqB_yes rfl (fun _ _ => rfl)
      have hqb : eqB b b = true := eqB_yes rfl (fun _ _ => rfl)
      go_enter Tryd.func5, Tryd.ntmps5
      go_wp2_with fail
      refine (toIntS_any A n c a _ ha hn).mono ?_
      rintro e w1 ⟨rfl, r1, b1, s1⟩
      have ha1 : IntsAt w1 w1.heap.size A n a := (ha.below b1).more b1.size
      have hb1 : IntsAt w1 w1.heap.size A' m b := (hb.below b1).more b1.size
      go_wp2_with fail
      refine (toIntS_any A' m c' b _ hb1 hm).mono ?_
      rintro e w2 ⟨rfl, r2, b2, s2⟩
      have ha2 : IntsAt w2 w2.heap.size A n a := (ha1.below b2).more b2.size
      have hb2 : IntsAt w2 w2.heap.size A' m b := (hb1.below b2).more b2.size
      have b02 : Below w.heap.size w w2 := b1.trans (b2.mono b1.size)
      go_wp2_with fail
      refine (specBoth_any _ _ _ _ _ _ a b _ (IntsAt.of_row (Nat.le_refl _) (Nat.lt_trans s1 s2) hla.out (rowIs_below r1 b2 s1)) (IntsAt.of_row (Nat.le_refl _) s2 hlb.out r2) hn hm).mono ?_
      rintro e w3 ⟨A0, n0, c0, rfl, o3, b3⟩
      have hn0 : n0 ≤ 1048576 := by rw [← o3.len]; omega
      have ha3 : IntsAt w3 w3.heap.size A n a := (ha2.below b3).more b3.size
      have hb3 : IntsAt w3 w3.heap.size A' m b := (hb2.below b3).more b3.size
      have b03 : Below w.heap.size w w3 := b02.trans (b3.mono b02.size)
      have t3 : TabOk w3 := ht.below b03 ht.pos
      have i0 : IntsAt w3 w3.heap.size A0 n0 (bothR a b) := o3.ints
      clear r1 r2 b1 b2 s1 s2 ha1 ha2 hb1 hb2 b3 b02 o3
      go_wp2_with fail
      refine (toIntS_any A n c a _ ha3 hn).mono ?_
      rintro e w4 ⟨rfl, r4, b4, s4⟩
      have ha4 : IntsAt w4 w4.heap.size A n a := (ha3.below b4).more b4.size
      have hb4 : IntsAt w4 w4.heap.size A' m b := (hb3.below b4).more b4.size
      go_wp2_with fail
      refine (toIntS_any A' m c' b _ hb4 hm).mono ?_
      rintro e w5 ⟨rfl, r5, b5, s5⟩
      have ha5 : IntsAt w5 w5.heap.size A n a := (ha4.below b5).more b5.size
      have hb5 : IntsAt w5 w5.heap.size A' m b := (hb4.below b5).more b5.size
      have b35 : Below w3.heap.size w3 w5 := b4.trans (b5.mono b4.size)
      have t5 : TabOk w5 := t3.below b35 t3.pos
      have x0 : OwnAt w5 w3.heap.size (some ⟨w3.heap.size, 0, none⟩) n a := OwnAt.of_row (Nat.lt_trans s4 s5) hla.out (rowIs_below r4 b5 s4)
      have x1 : OwnAt w5 w4.heap.size (some ⟨w4.heap.size, 0, none⟩) m b := OwnAt.of_row s5 hlb.out r5
      clear r4 r5 ha4 hb4
      go_wp2_with fail
      refine (implBoth_any _ _ _ _ _ _ a b _ x0.ints x1.ints hn hm t5).mono ?_
      rintro e w6 ⟨A6, n6, c6, rfl, g6, b6⟩
      have hn6 : n6 ≤ 1048576 := by rw [← g6.len]; omega
      have b36 : Below w3.heap.size w3 w6 := b35.trans (b6.mono b35.size)
      have i6 : IntsAt w6 w3.heap.size A0 n0 (bothR a b) := i0.below b36
      go_wp2_with fail
      refine (eqIntS_any A6 A0 n6 n0 c6 c0 w6.heap.size _ _ w6 g6.ints (i6.more b36.size) hn6 hn0).mono ?_
      rintro e w6' ⟨rfl, d6, rfl⟩
      go_wp2_with fail
      have ha6 : IntsAt (w6.drewN d6) w6.heap.size A n a := (ha5.below b6).more b6.size
      have hb6 : IntsAt (w6.drewN d6) w6.heap.size A' m b := (hb5.below b6).more b6.size
      refine (toIntS_any A n c a (w6.drewN d6) ha6 hn).mono ?_
      rintro e w7 ⟨rfl, r7, b7, s7⟩
      have b7' : Below w6.heap.size w6 w7 := (below_drewN (Below.refl _ _) d6).trans b7
      have s7' : w6.heap.size < w7.heap.size := s7
      have ha7 : IntsAt w7 w7.heap.size A n a := (ha6.below b7).more b7.size
      have hb7 : IntsAt w7 w7.heap.size A' m b := (hb6.below b7).more b7.size
      have x07 : OwnAt w7 w3.heap.size (some ⟨w3.heap.size, 0, none⟩) n a := (x0.below b6).below b7'
      have x17 : OwnAt w7 w4.heap.size (some ⟨w4.heap.size, 0, none⟩) m b := (x1.below b6).below b7'
      have g7 : OwnAt w7 w5.heap.size A6 n6 (bothR a b) := g6.below b7'
      have b37 : Below w3.heap.size w3 w7 := b36.trans (b7'.mono b36.size)
      clear x0 x1 g6 ha6 hb6 ha5 hb5 i6
      go_wp2_with fail
      refine (eqIntS_any _ _ n n _ _ w7.heap.size a a _ x07.ints (IntsAt.of_row (Nat.le_refl _) s7' hla.out r7) hn hn).mono ?_
      rintro e w7'' ⟨rfl, d7, rfl⟩
      clear r7 b7 s7
      go_wp2_with fail
      refine (toIntS_any A' m c' b (w7.drewN d7) hb7 hm).mono ?_
      rintro e w8 ⟨rfl, r8, b8, s8⟩
      have b8' : Below w7.heap.size w7 w8 := (below_drewN (Below.refl _ _) d7).trans b8
      have s8' : w7.heap.size < w8.heap.size := s8
      have ha8 : IntsAt w8 w8.heap.size A n a := (ha7.below b8').more b8'.size
      have hb8 : IntsAt w8 w8.heap.size A' m b := (hb7.below b8').more b8'.size
      have x08 : OwnAt w8 w3.heap.size (some ⟨w3.heap.size, 0, none⟩) n a := x07.below b8'
      have x18 : OwnAt w8 w4.heap.size (some ⟨w4.heap.size, 0, none⟩) m b := x17.below b8'
      have g8 : OwnAt w8 w5.heap.size A6 n6 (bothR a b) := g7.below b8'
      have b38 : Below w3.heap.size w3 w8 := b37.trans (b8'.mono b37.size)
      clear x07 x17 g7 ha7 hb7
      go_wp2_with fail
      refine (eqIntS_any _ _ m m _ _ w8.heap.size b b _ x18.ints (IntsAt.of_row (Nat.le_refl _) s8' hlb.out r8) hm hm).mono ?_
      rintro e w8'' ⟨rfl, d8, rfl⟩
      clear r8 b8 s8
      go_wp2_with fail
      refine (mark_any _ n _ w3.heap.size a 1 _ (x08.drewN d8) hn (by decide) (by decide)).mono ?_
      rintro e w9 ⟨rfl, _, only9⟩
      have b89 : Below w3.heap.size w8 w9 := (below_drewN (Below.refl _ _) d8).trans (only9.below (fun ad e => by cases e; exact Nat.le_refl _))
      have z9 : w9.heap.size = w8.heap.size := only9.size
      have x19 : OwnAt w9 w4.heap.size (some ⟨w4.heap.size, 0, none⟩) m b := (x18.drewN d8).only only9 (fun ad ad' e e' => by cases e; cases e'; exact Nat.ne_of_gt s4)
      have g9 : OwnAt w9 w5.heap.size A6 n6 (bothR a b) := (g8.drewN d8).only only9 (fun ad ad' e e' => by cases e'; have := (g8.low ad e).1; exact Nat.ne_of_gt (Nat.lt_of_lt_of_le (Nat.lt_trans s4 s5) this))
      clear x08 x18 g8 only9
      go_wp2_with fail
      refine (mark_any _ m _ w4.heap.size b (1 + (n : Int)) _ x19 hm (by omega) (by omega)).mono ?_
      rintro e w10 ⟨rfl, _, only10⟩
      have b910 : Below w3.heap.size w9 w10 := only10.below (fun ad e => by cases e; exact Nat.le_of_lt s4)
      have z10 : w10.heap.size = w9.heap.size := only10.size
      have g10 : OwnAt w10 w5.heap.size A6 n6 (bothR a b) := g9.only only10 (fun ad ad' e e' => by cases e'; have := (g9.low ad e).1; exact Nat.ne_of_gt (Nat.lt_of_lt_of_le s5 this))
      have b310 : Below w3.heap.size w3 w10 := (b38.trans b89).trans b910
      have i10 : IntsAt w10 w3.heap.size A0 n0 (bothR a b) := i0.below b310
      clear x19 g9 only10 b89 b910
      have hk0 : ¬ (1 + (n : Int) + (m : Int)) < 0 := by omega
      go_wp2_with fail
      refine (eqIntS_any A6 A0 n6 n0 c6 c0 w10.heap.size _ _ w10 g10.ints (i10.more b310.size) hn6 hn0).mono ?_
      rintro e w10' ⟨rfl, d10, rfl⟩
      clear hk0
      go_wp2_with fail
      refine (mark_any A6 n6 c6 w5.heap.size _ 1 _ (g10.drewN d10) hn6 (by decide) (by decide)).mono ?_
      rintro e w11 ⟨rfl, g11, only11⟩
      have b11 : Below w5.heap.size w10 w11 := (below_drewN (Below.refl _ _) d10).trans (only11.below (fun ad e => (g10.low ad e).1))
      have b311 : Below w3.heap.size w3 w11 := b310.trans (b11.mono b35.size)
      clear only11 g10
      go_wp2_with fail
      refine (held_any A6 n6 c6 w11.heap.size 1 w11 g11.ints hn6 (by decide) (by decide)).mono ?_
      rintro e w11' ⟨rfl, rfl⟩
      have hlt0 : ¬ (1 + (n6 : Int)) < 0 := by omega
      have hne : ((1 + (n6 : Int)) != (1 + (n6 : Int))) = false := by simp
      have b811 : Below w3.heap.size w8 w11 := ⟨b311.os.trans b38.os.symm, b311.tape.trans b38.tape.symm, b311.output.trans b38.output.symm, by have := b11.size; omega, fun k hk => (b311.block k hk).trans (b38.block k hk).symm⟩
      have ha11 : IntsAt w11 w11.heap.size A n a := (ha3.below b311).more b311.size
      have hb11 : IntsAt w11 w11.heap.size A' m b := (hb3.below b311).more b311.size
      clear b811
      go_wp2_with fail
      refine (toIntS_any A n c a _ ha11 hn).mono ?_
      rintro e w12 ⟨rfl, r12, b12, s12⟩
      have hb12 : IntsAt w12 w12.heap.size A' m b := (hb11.below b12).more b12.size
      go_wp2_with fail
      refine (toIntS_any A' m c' b _ hb12 hm).mono ?_
      rintro e w13 ⟨rfl, r13, b13, s13⟩
      have b1113 : Below w11.heap.size w11 w13 := b12.trans (b13.mono b12.size)
      have b313 : Below w3.heap.size w3 w13 := b311.trans (b1113.mono b311.size)
      have t13 : TabOk w13 := t3.below b313 t3.pos
      go_wp2_with fail
      refine (implBoth_any _ _ _ _ _ _ a b _ (IntsAt.of_row (Nat.le_refl _) (Nat.lt_trans s12 s13) hla.out (rowIs_below r12 b13 s12)) (IntsAt.of_row (Nat.le_refl _) s13 hlb.out r13) hn hm t13).mono ?_
      rintro e w14 ⟨A14, n14, c14, rfl, o14, b14⟩
      have hn14 : n14 ≤ 1048576 := by rw [← o14.len]; omega
      have b314 : Below w3.heap.size w3 w14 := b313.trans (b14.mono b313.size)
      have i14 : IntsAt w14 w3.heap.size A0 n0 (bothR a b) := i0.below b314
      go_wp2_with fail
      refine (eqIntS_any A14 A0 n14 n0 c14 c0 w14.heap.size _ _ w14 o14.ints (i14.more b314.size) hn14 hn0).mono ?_
      rintro e w14' ⟨rfl, d14, rfl⟩
      have g14 : OwnAt (w14.drewN d14) w5.heap.size A6 n6 (marks 1 n6) := ((g11.below b1113).below b14).drewN d14
      go_wp2_with fail
      refine (held_any A6 n6 c6 w14.heap.size 1 _ g14.ints hn6 (by decide) (by decide)).mono ?_
      rintro e w15 ⟨rfl, rfl⟩
      go_wp2
      go_ret
      exact ⟨rfl, below_drewN (b03.trans (b314.mono b03.size)) d14⟩
    · have hgt : (1048576 : Int) < (m : Int) := by omega
      go_enter Tryd.func5, Tryd.ntmps5
      go_wp2
      go_ret
      exact ⟨rfl, Below.refl _ _⟩
  · have hgt : (1048576 : Int) < (n : Int) := by omega
    go_enter Tryd.func5, Tryd.ntmps5
    go_wp2
    go_ret
    exact ⟨rfl, Below.refl _ _⟩
end Go.Proofs.YtpopefopmbmgaaaDoor
