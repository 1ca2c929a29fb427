/- What is proved here: the law on TurnsIn returns true at every slice of integers and every two integers, and writes nothing that was there. No conditions. -/
import Derived.Test.YtagppnmokmnofaaClockB
namespace Go.Proofs.Ytagppnmokmnofaa
open Go.RowKit

set_option maxHeartbeats 6400000 in
set_option maxRecDepth 100000 in
theorem lawTurnsIn (A : Option Addr) (n c : Nat) (xs : List Int) (s x : Int) (w : World) (h : IntsAt w w.heap.size A n xs) (hm : n ≤ maxLen) :
    Calls Try.prog 6 #[.slice A n c, .int .i64 s, .int .i64 x] w fun e w' => e = .returned (.bool true) ∧ Below w.heap.size w w' := by
  unfold maxLen at hm
  by_cases hn : n ≤ 1048576
  · have hl := Lib.hid h.1
    have hlen := turnsR_len xs s x
    have hq2 : (turnB xs s x != turnB xs s x) = false := by simp
    have hq : eqB xs xs = true := eqB_yes rfl (fun _ _ => rfl)
    have hqr : eqB (turnsR xs s x) (turnsR xs s x) = true := eqB_yes rfl (fun _ _ => rfl)
    go_enter Try.func6, Try.ntmps6
    go_wp2_with fail
    refine (toIntS_any A n c xs _ h hn).mono ?_
    rintro e w1 ⟨rfl, r1, b1, s1⟩
    have h1 : IntsAt w1 w1.heap.size A n xs := (h.below b1).more b1.size
    go_wp2_with fail
    refine (specTurns_any _ _ _ xs s x _ (IntsAt.of_row (Nat.le_refl _) s1 hl.out r1) hn).mono ?_
    rintro e w3 ⟨A0, n0, c0, rfl, o3, b3⟩
    have hn0 : n0 ≤ 100 := by rw [← o3.len]; exact hlen
    have h3 : IntsAt w3 w3.heap.size A n xs := (h1.below b3).more b3.size
    have b03 : Below w.heap.size w w3 := b1.trans (b3.mono b1.size)
    have i0 : IntsAt w3 w3.heap.size A0 n0 (turnsR xs s x) := o3.ints
    clear r1 b1 s1 h1 b3 o3
    go_wp2_with fail
    refine (toIntS_any A n c xs _ h3 hn).mono ?_
    rintro e w5 ⟨rfl, r5, b5, s5⟩
    have h5 : IntsAt w5 w5.heap.size A n xs := (h3.below b5).more b5.size
    have x0 : OwnAt w5 w3.heap.size (some ⟨w3.heap.size, 0, none⟩) n xs := OwnAt.of_row s5 hl.out r5
    clear r5
    go_wp2_with fail
    refine (implTurns_any _ _ _ xs s x _ x0.ints hn).mono ?_
    rintro e w6 ⟨A6, n6, c6, rfl, g6, b6⟩
    have hn6 : n6 ≤ 100 := by rw [← g6.len]; exact hlen
    have b36 : Below w3.heap.size w3 w6 := b5.trans (b6.mono b5.size)
    have i6 : IntsAt w6 w3.heap.size A0 n0 (turnsR xs s x) := i0.below b36
    go_wp2_with fail
    refine (eqIntS_any A6 A0 n6 n0 c6 c0 w6.heap.size _ _ w6 g6.ints (i6.more b36.size) (by omega) (by omega)).mono ?_
    rintro e w6' ⟨rfl, d6, rfl⟩
    have h6 : IntsAt (w6.drewN d6) w6.heap.size A n xs := (h5.below b6).more b6.size
    go_wp2_with fail
    refine (toIntS_any A n c xs (w6.drewN d6) h6 hn).mono ?_
    rintro e w8 ⟨rfl, r8, b8, s8⟩
    have b8' : Below w6.heap.size w6 w8 := (below_drewN (Below.refl _ _) d6).trans b8
    have s8' : w6.heap.size < w8.heap.size := s8
    have x08 : OwnAt w8 w3.heap.size (some ⟨w3.heap.size, 0, none⟩) n xs := (x0.below b6).below b8'
    have g8 : OwnAt w8 w5.heap.size A6 n6 (turnsR xs s x) := g6.below b8'
    have b38 : Below w3.heap.size w3 w8 := b36.trans (b8'.mono b36.size)
    clear x0 g6 h6 h5 i6
    go_wp2_with fail
    refine (eqIntS_any _ _ n n _ _ w8.heap.size xs xs _ x08.ints (IntsAt.of_row (Nat.le_refl _) s8' hl.out r8) hn hn).mono ?_
    rintro e w8'' ⟨rfl, d8, rfl⟩
    clear r8 b8 s8
    go_wp2_with fail
    refine (mark_any _ n _ w3.heap.size xs 1 _ (x08.drewN d8) hn (by decide) (by decide)).mono ?_
    rintro e w10 ⟨rfl, _, only9⟩
    have b89 : Below w3.heap.size w8 w10 := (below_drewN (Below.refl _ _) d8).trans (only9.below (fun ad e => by cases e; exact Nat.le_refl _))
    have g10 : OwnAt w10 w5.heap.size A6 n6 (turnsR xs s x) := (g8.drewN d8).only only9 (fun ad ad' e e' => by cases e'; have := (g8.low ad e).1; exact Nat.ne_of_gt (Nat.lt_of_lt_of_le s5 this))
    have b310 : Below w3.heap.size w3 w10 := b38.trans b89
    have i10 : IntsAt w10 w3.heap.size A0 n0 (turnsR xs s x) := i0.below b310
    clear x08 g8 only9 b89
    have hk0 : ¬ (1 + (n : Int)) < 0 := by omega
    go_wp2_with fail
    refine (eqIntS_any A6 A0 n6 n0 c6 c0 w10.heap.size _ _ w10 g10.ints (i10.more b310.size) (by omega) (by omega)).mono ?_
    rintro e w10' ⟨rfl, d10, rfl⟩
    clear hk0
    go_wp2_with fail
    refine (mark_any A6 n6 c6 w5.heap.size _ 1 _ (g10.drewN d10) (by omega) (by decide) (by decide)).mono ?_
    rintro e w11 ⟨rfl, g11, only11⟩
    have b11 : Below w5.heap.size w10 w11 := (below_drewN (Below.refl _ _) d10).trans (only11.below (fun ad e => (g10.low ad e).1))
    have b311 : Below w3.heap.size w3 w11 := b310.trans (b11.mono b5.size)
    clear only11 g10
    go_wp2_with fail
    refine (held_any A6 n6 c6 w11.heap.size 1 w11 g11.ints (by omega) (by decide) (by decide)).mono ?_
    rintro e w11' ⟨rfl, rfl⟩
    have hlt0 : ¬ (1 + (n6 : Int)) < 0 := by omega
    have hne : ((1 + (n6 : Int)) != (1 + (n6 : Int))) = false := by simp
    have h11 : IntsAt w11 w11.heap.size A n xs := (h3.below b311).more b311.size
    go_wp2_with fail
    refine (toIntS_any A n c xs _ h11 hn).mono ?_
    rintro e w13 ⟨rfl, r13, b13, s13⟩
    have b313 : Below w3.heap.size w3 w13 := b311.trans (b13.mono b311.size)
    go_wp2_with fail
    refine (implTurns_any _ _ _ xs s x _ (IntsAt.of_row (Nat.le_refl _) s13 hl.out r13) hn).mono ?_
    rintro e w14 ⟨A14, n14, c14, rfl, o14, b14⟩
    have hn14 : n14 ≤ 100 := by rw [← o14.len]; exact hlen
    have b314 : Below w3.heap.size w3 w14 := b313.trans (b14.mono b313.size)
    have i14 : IntsAt w14 w3.heap.size A0 n0 (turnsR xs s x) := i0.below b314
    go_wp2_with fail
    refine (eqIntS_any A14 A0 n14 n0 c14 c0 w14.heap.size _ _ w14 o14.ints (i14.more b314.size) (by omega) (by omega)).mono ?_
    rintro e w14' ⟨rfl, d14, rfl⟩
    have g14 : OwnAt (w14.drewN d14) w5.heap.size A6 n6 (marks 1 n6) := ((g11.below b13).below b14).drewN d14
    go_wp2_with fail
    refine (held_any A6 n6 c6 w14.heap.size 1 _ g14.ints (by omega) (by decide) (by decide)).mono ?_
    rintro e w15 ⟨rfl, rfl⟩
    go_wp2
    go_ret
    exact ⟨rfl, below_drewN (b03.trans (b314.mono b03.size)) d14⟩
  · have hgt : (1048576 : Int) < (n : Int) := by omega
    go_enter Try.func6, Try.ntmps6
    go_wp2
    go_ret
    exact ⟨rfl, Below.refl _ _⟩
end Go.Proofs.Ytagppnmokmnofaa
