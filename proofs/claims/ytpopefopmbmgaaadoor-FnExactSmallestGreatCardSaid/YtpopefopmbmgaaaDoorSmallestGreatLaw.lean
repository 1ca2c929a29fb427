/- What is proved here: the law on SmallestGreat returns true at every slice of integers, and writes nothing that was there. No conditions but that the table of bits holds what its text lays. -/
import Derived.Test.YtpopefopmbmgaaaDoorSmallSpec
namespace Go.Proofs.YtpopefopmbmgaaaDoor
open Go.RowKit

set_option maxHeartbeats 3200000 in
set_option maxRecDepth 100000 in
theorem lawSmallestGreat (A : Option Addr) (n c : Nat) (a : List Int) (w : World) (ha : IntsAt w w.heap.size A n a) (hnn : n ≤ maxLen) (ht : TabOk w) :
    Calls Tryd.prog 6 #[.slice A n c] w fun e w' => e = .returned (.bool true) ∧ Below w.heap.size w w' := by
  unfold maxLen at hnn
  by_cases hn : n ≤ 1048576
  · have hla := Lib.hid ha.1
    have hlen := smallR_len a
    have hq1 : (goodB a != goodB a) = false := by simp
    have hqr : eqB (smallR a) (smallR a) = true := eqB_yes rfl (fun _ _ => rfl)
    have hqa : eqB a a = true := eqB_yes rfl (fun _ _ => rfl)
    go_enter Tryd.func6, Tryd.ntmps6
    go_wp2_with fail
    refine (toIntS_any A n c a _ ha hn).mono ?_
    rintro e w1 ⟨rfl, r1, b1, s1⟩
    have ha1 : IntsAt w1 w1.heap.size A n a := (ha.below b1).more b1.size
    go_wp2_with fail
    refine (specSmall_any _ _ _ a _ (IntsAt.of_row (Nat.le_refl _) s1 hla.out r1) hn).mono ?_
    rintro e w3 ⟨A0, n0, c0, rfl, o3, b3⟩
    have hn0 : n0 ≤ 1048576 := by rw [← o3.len]; omega
    have ha3 : IntsAt w3 w3.heap.size A n a := (ha1.below b3).more b3.size
    have b03 : Below w.heap.size w w3 := b1.trans (b3.mono b1.size)
    have t3 : TabOk w3 := ht.below b03 ht.pos
    have i0 : IntsAt w3 w3.heap.size A0 n0 (smallR a) := o3.ints
    clear r1 b1 s1 ha1 b3 o3
    go_wp2_with fail
    refine (toIntS_any A n c a _ ha3 hn).mono ?_
    rintro e w5 ⟨rfl, r5, b5, s5⟩
    have ha5 : IntsAt w5 w5.heap.size A n a := (ha3.below b5).more b5.size
    have t5 : TabOk w5 := t3.below b5 t3.pos
    have x0 : OwnAt w5 w3.heap.size (some ⟨w3.heap.size, 0, none⟩) n a := OwnAt.of_row s5 hla.out r5
    clear r5
    go_wp2_with fail
    refine (implSmall_any _ _ _ a _ x0.ints hn t5).mono ?_
    rintro e w6 ⟨A6, n6, c6, rfl, g6, b6⟩
    have hn6 : n6 ≤ 1048576 := by rw [← g6.len]; omega
    have b36 : Below w3.heap.size w3 w6 := b5.trans (b6.mono b5.size)
    have i6 : IntsAt w6 w3.heap.size A0 n0 (smallR a) := i0.below b36
    go_wp2_with fail
    refine (eqIntS_any A6 A0 n6 n0 c6 c0 w6.heap.size _ _ w6 g6.ints (i6.more b36.size) hn6 hn0).mono ?_
    rintro e w6' ⟨rfl, d6, rfl⟩
    go_wp2_with fail
    have ha6 : IntsAt (w6.drewN d6) w6.heap.size A n a := (ha5.below b6).more b6.size
    refine (toIntS_any A n c a (w6.drewN d6) ha6 hn).mono ?_
    rintro e w7 ⟨rfl, r7, b7, s7⟩
    have b7' : Below w6.heap.size w6 w7 := (below_drewN (Below.refl _ _) d6).trans b7
    have s7' : w6.heap.size < w7.heap.size := s7
    have x07 : OwnAt w7 w3.heap.size (some ⟨w3.heap.size, 0, none⟩) n a := (x0.below b6).below b7'
    have g7 : OwnAt w7 w5.heap.size A6 n6 (smallR a) := g6.below b7'
    have b37 : Below w3.heap.size w3 w7 := b36.trans (b7'.mono b36.size)
    clear x0 g6 ha6 ha5 i6
    go_wp2_with fail
    refine (eqIntS_any _ _ n n _ _ w7.heap.size a a _ x07.ints (IntsAt.of_row (Nat.le_refl _) s7' hla.out r7) hn hn).mono ?_
    rintro e w7'' ⟨rfl, d7, rfl⟩
    clear r7 b7 s7
    go_wp2_with fail
    refine (mark_any _ n _ w3.heap.size a 1 _ (x07.drewN d7) hn (by decide) (by decide)).mono ?_
    rintro e w9 ⟨rfl, _, only9⟩
    have b79 : Below w3.heap.size w7 w9 := (below_drewN (Below.refl _ _) d7).trans (only9.below (fun ad e => by cases e; exact Nat.le_refl _))
    have g9 : OwnAt w9 w5.heap.size A6 n6 (smallR a) := (g7.drewN d7).only only9 (fun ad ad' e e' => by cases e'; have := (g7.low ad e).1; exact Nat.ne_of_gt (Nat.lt_of_lt_of_le s5 this))
    have b39 : Below w3.heap.size w3 w9 := b37.trans b79
    have i9 : IntsAt w9 w3.heap.size A0 n0 (smallR a) := i0.below b39
    clear x07 g7 only9 b79
    have hk0 : ¬ (1 + (n : Int)) < 0 := by omega
    go_wp2_with fail
    refine (eqIntS_any A6 A0 n6 n0 c6 c0 w9.heap.size _ _ w9 g9.ints (i9.more b39.size) hn6 hn0).mono ?_
    rintro e w9' ⟨rfl, d9, rfl⟩
    clear hk0
    go_wp2_with fail
    refine (mark_any A6 n6 c6 w5.heap.size _ 1 _ (g9.drewN d9) hn6 (by decide) (by decide)).mono ?_
    rintro e w11 ⟨rfl, g11, only11⟩
    have b11 : Below w5.heap.size w9 w11 := (below_drewN (Below.refl _ _) d9).trans (only11.below (fun ad e => (g9.low ad e).1))
    have b311 : Below w3.heap.size w3 w11 := b39.trans (b11.mono b5.size)
    clear only11 g9
    go_wp2_with fail
    refine (held_any A6 n6 c6 w11.heap.size 1 w11 g11.ints hn6 (by decide) (by decide)).mono ?_
    rintro e w11' ⟨rfl, rfl⟩
    have hlt0 : ¬ (1 + (n6 : Int)) < 0 := by omega
    have hne : ((1 + (n6 : Int)) != (1 + (n6 : Int))) = false := by simp
    have ha11 : IntsAt w11 w11.heap.size A n a := (ha3.below b311).more b311.size
    go_wp2_with fail
    refine (toIntS_any A n c a _ ha11 hn).mono ?_
    rintro e w13 ⟨rfl, r13, b13, s13⟩
    have b313 : Below w3.heap.size w3 w13 := b311.trans (b13.mono b311.size)
    have t13 : TabOk w13 := t3.below b313 t3.pos
    go_wp2_with fail
    refine (implSmall_any _ _ _ a _ (IntsAt.of_row (Nat.le_refl _) s13 hla.out r13) hn t13).mono ?_
    rintro e w14 ⟨A14, n14, c14, rfl, o14, b14⟩
    have hn14 : n14 ≤ 1048576 := by rw [← o14.len]; omega
    have b314 : Below w3.heap.size w3 w14 := b313.trans (b14.mono b313.size)
    have i14 : IntsAt w14 w3.heap.size A0 n0 (smallR a) := i0.below b314
    go_wp2_with fail
    refine (eqIntS_any A14 A0 n14 n0 c14 c0 w14.heap.size _ _ w14 o14.ints (i14.more b314.size) hn14 hn0).mono ?_
    rintro e w14' ⟨rfl, d14, rfl⟩
    have g14 : OwnAt (w14.drewN d14) w5.heap.size A6 n6 (marks 1 n6) := ((g11.below b13).below b14).drewN d14
    go_wp2_with fail
    refine (held_any A6 n6 c6 w14.heap.size 1 _ g14.ints hn6 (by decide) (by decide)).mono ?_
    rintro e w15 ⟨rfl, rfl⟩
    go_wp2
    go_ret
    exact ⟨rfl, below_drewN (b03.trans (b314.mono b03.size)) d14⟩
  · have hgt : (1048576 : Int) < (n : Int) := by omega
    go_enter Tryd.func6, Tryd.ntmps6
    go_wp2
    go_ret
    exact ⟨rfl, Below.refl _ _⟩
end Go.Proofs.YtpopefopmbmgaaaDoor
