/- What is proved here: the law on BelowOf returns true at every slice of blocks and every integer, and writes nothing that was there. No conditions. -/
import Derived.Test.YtoppgckmcclfpaaBelow
namespace Go.Proofs.Ytoppgckmcclfpaa
open Go.RowKit

set_option maxRecDepth 100000 in
set_option maxHeartbeats 1600000 in
theorem lawBelowOf (A : Option Addr) (n c : Nat) (ts : List Blk) (a : Int) (w : World) (h : BlksAt w w.heap.size A n ts) (hn : n ≤ 140737488351232) :
    Calls Try.prog 9 #[.slice A n c, .int .i64 a] w fun e w' => e = .returned (.bool true) ∧ Below w.heap.size w w' := by
  by_cases hm : n ≤ 1048576
  · have hlf := Lib.hid (show leftR n = 1048576 - n by unfold leftR; rw [if_pos hm])
    have hh := Lib.hid h; clear h
    have hlen := Lib.hid (belR_len ts a)
    have hq0 : (okK ts a != okK ts a) = false := by simp
    have hqe : eqT ts ts = true := by unfold eqT; simp
    have hqr : eqB (belR ts a) (belR ts a) = true := eqB_yes rfl (fun _ _ => rfl)
    go_enter Try.func9, Try.ntmps9
    go_wp2_with (go_at_call 64; refine (szBlockS_any _ _ _ _ hn).mono ?_; rintro e w' ⟨rfl, rfl⟩; rw [hlf.out])
    refine (toBlockS_any _ _ _ ts _ hh.out hm).mono ?_
    rintro e w1 ⟨rfl, r1, b1, s1⟩
    have k1 := Lib.hid (BlksAt.of_row s1 hh.out.1 r1)
    have u1 := Lib.hid b1
    clear r1 b1 s1
    go_wp2_with fail
    refine (specBelow_any _ n _ ts a _ k1.out hm).mono ?_
    rintro e w2 ⟨A0, n0, c0, rfl, o2, b2⟩
    have hn0 : n0 ≤ 100 := by rw [← o2.len]; exact hlen.out
    have lo0 := Lib.hid (fun ad e => (o2.low ad e).2)
    have o2' := Lib.hid o2
    have u2 := Lib.hid (u1.out.trans (b2.mono u1.out.size)); clear b2 o2
    go_wp2_with fail
    refine (toBlockS_any _ _ _ ts _ (hh.out.up u2.out) hm).mono ?_
    rintro e w3 ⟨rfl, r3, b3, s3⟩
    have k3 := Lib.hid (BlksAt.of_row s3 hh.out.1 r3)
    have r3' := Lib.hid r3
    have o3 := Lib.hid (o2'.out.below b3)
    have u3 := Lib.hid (u2.out.trans (b3.mono u2.out.size))
    have s3' := Lib.hid s3
    have s2' := Lib.hid u2.out.size
    clear r3 b3 s3 o2'
    generalize w2.heap.size = gx at k3 r3' s3' lo0 s2' ⊢
    go_wp2_with fail
    refine (implBelow_any _ n _ ts a _ k3.out hm).mono ?_
    rintro e w4 ⟨A6, n6, c6, rfl, o4, b4⟩
    have hn6 : n6 ≤ 100 := by rw [← o4.len]; exact hlen.out
    have lo6 := Lib.hid (fun ad e => Nat.lt_of_lt_of_le s3'.out (o4.low ad e).1)
    have g4 := Lib.hid o4
    have p4 := Lib.hid (o3.out.below b4)
    have r4 := Lib.hid (rowIs_below r3'.out b4 s3'.out)
    have k4 := Lib.hid (k3.out.up b4)
    have u4 := Lib.hid (u3.out.trans (b4.mono u3.out.size)); clear b4 o4 o3 k3 r3'
    go_wp2_with fail
    refine (eqIntS_any A6 A0 n6 n0 c6 c0 w4.heap.size _ _ w4 g4.out.ints p4.out.ints (by omega) (by omega)).mono ?_
    rintro e w4' ⟨rfl, d4, rfl⟩
    rw [hqr]
    go_wp2_with fail
    refine (toBlockS_any _ _ _ ts (w4.drewN d4) (hh.out.up (below_drewN u4.out d4)) hm).mono ?_
    rintro e w5 ⟨rfl, r5, b5, s5⟩
    have b5' : Below w4.heap.size w4 w5 := (below_drewN (Below.refl _ _) d4).trans b5
    have k5 := Lib.hid (BlksAt.of_row s5 hh.out.1 r5)
    have k4' := Lib.hid (k4.out.up b5')
    have g5 := Lib.hid (g4.out.below b5')
    have p5 := Lib.hid (p4.out.below b5')
    have r5' := Lib.hid (rowIs_below r4.out b5' r4.out.lt)
    have u5 := Lib.hid (u4.out.trans (b5'.mono u4.out.size))
    clear r5 b5 s5 b5' g4 p4 r4 k4
    go_wp2_with fail
    refine (eqBlockS_any _ _ _ _ _ _ ts ts _ k4'.out k5.out hm hm).mono ?_
    rintro e w6 ⟨rfl, b6⟩
    rw [hqe]
    have g6 := Lib.hid (g5.out.below b6)
    have p6 := Lib.hid (p5.out.below b6)
    have r6 := Lib.hid (rowIs_below r5'.out b6 r5'.out.lt)
    have u6 := Lib.hid (u5.out.trans (b6.mono u5.out.size)); clear b6 g5 p5 r5' k4' k5
    go_wp2_with fail
    refine (markBlk_any gx n _ _ _ r6.out hm).mono ?_
    rintro e w7 ⟨rfl, o1, o2, o3, o4, o5⟩
    have g7 := Lib.hid (g6.out.keep (w' := w7) (by rw [o4]; exact Nat.le_refl _) (fun ad e => o5 _ (by have := lo6.out ad e; omega)))
    have p7 := Lib.hid (p6.out.keep (w' := w7) (by rw [o4]; exact Nat.le_refl _) (fun ad e => o5 _ (by have := lo0.out ad e; omega)))
    have u7 := Lib.hid (u6.out.trans (⟨o1, o2, o3, by rw [o4]; exact Nat.le_refl _, fun k hk => o5 k (by have := s2'.out; omega)⟩ : Below w.heap.size w6 w7))
    clear o1 o2 o3 o4 o5 g6 p6 r6
    have hk0 : ¬ (1 + (n : Int) * 2) < 0 := by omega
    go_wp2_with fail
    refine (eqIntS_any A6 A0 n6 n0 c6 c0 w7.heap.size _ _ w7 g7.out.ints p7.out.ints (by omega) (by omega)).mono ?_
    rintro e w7' ⟨rfl, d7, rfl⟩
    rw [hqr]
    clear hk0
    go_wp2_with fail
    refine (mark_any A6 n6 c6 _ _ 1 (w7.drewN d7) (g7.out.drewN d7) (by omega) (by decide) (by decide)).mono ?_
    rintro e w8 ⟨rfl, g8, only8⟩
    have p8 := Lib.hid (OwnAt.only (p7.out.drewN d7) only8 (fun ad ad' e e' => by have := lo0.out ad e; have := lo6.out ad' e'; omega))
    have u8 := Lib.hid (u7.out.trans ((below_drewN (Below.refl _ _) d7).trans (only8.below (fun ad e => by have := lo6.out ad e; have := s2'.out; omega))))
    have g8' := Lib.hid g8
    clear only8 g7 p7 g8
    go_wp2_with fail
    refine (held_any A6 n6 c6 w8.heap.size 1 w8 g8'.out.ints (by omega) (by decide) (by decide)).mono ?_
    rintro e w8' ⟨rfl, rfl⟩
    have hlt0 : ¬ (1 + (n6 : Int)) < 0 := by omega
    have hne : ((1 + (n6 : Int)) != (1 + (n6 : Int))) = false := by simp
    go_wp2_with fail
    refine (toBlockS_any _ _ _ ts _ (hh.out.up u8.out) hm).mono ?_
    rintro e w9 ⟨rfl, r9, b9, s9⟩
    have k9 := Lib.hid (BlksAt.of_row s9 hh.out.1 r9)
    have p9 := Lib.hid (p8.out.below b9)
    have g9 := Lib.hid (g8'.out.below b9)
    have u9 := Lib.hid (u8.out.trans (b9.mono u8.out.size))
    clear r9 b9 s9 p8 g8'
    go_wp2_with fail
    refine (implBelow_any _ n _ ts a _ k9.out hm).mono ?_
    rintro e w10 ⟨A10, n10, c10, rfl, o10, b10⟩
    have hn10 : n10 ≤ 100 := by rw [← o10.len]; exact hlen.out
    have i10 := Lib.hid o10.ints
    have p10 := Lib.hid (p9.out.below b10)
    have g10 := Lib.hid (g9.out.below b10)
    have u10 := Lib.hid (u9.out.trans (b10.mono u9.out.size)); clear b10 o10 p9 g9
    go_wp2_with fail
    refine (eqIntS_any A10 A0 n10 n0 c10 c0 w10.heap.size _ _ w10 i10.out p10.out.ints (by omega) (by omega)).mono ?_
    rintro e w10' ⟨rfl, d10, rfl⟩
    rw [hqr]
    go_wp2_with fail
    refine (held_any A6 n6 c6 w10.heap.size 1 (w10.drewN d10) (g10.out.drewN d10).ints (by omega) (by decide) (by decide)).mono ?_
    rintro e w11 ⟨rfl, rfl⟩
    go_wp2_with fail
    go_ret
    exact ⟨rfl, below_drewN u10.out d10⟩
  · have hlf := Lib.hid (show leftR n = -1 by unfold leftR; rw [if_neg hm])
    clear h
    go_enter Try.func9, Try.ntmps9
    go_wp2_with (go_at_call 64; refine (szBlockS_any _ _ _ _ hn).mono ?_; rintro e w' ⟨rfl, rfl⟩; rw [hlf.out])
    go_ret
    exact ⟨rfl, Below.refl _ _⟩
end Go.Proofs.Ytoppgckmcclfpaa
