/- What is proved here: the law on MoveVote returns true at every argument, and writes nothing that was there. No conditions. -/
import Derived.Test.YtbggglddgpeobabGhostVote
import Derived.Test.YtbggglddgpeobabLawCopy
namespace Go.Proofs.Ytbggglddgpeobab
open Go.RowKit

set_option maxRecDepth 100000 in
set_option maxHeartbeats 1600000 in
theorem lawMoveVote (A0 : Option Addr) (n0 c0 : Nat) (l0 : List Blk) (A1 : Option Addr) (n1 c1 : Nat) (l1 : List Int) (a : Int) (b : Int) (d : Int) (w : World) (h0 : BlksAt w w.heap.size A0 n0 l0) (hn0 : n0 ≤ 140737488351232) (h1 : IntsAt w w.heap.size A1 n1 l1) (hn1 : n1 ≤ 140737488351232) :
    Calls Try.prog 8 #[.slice A0 n0 c0, .slice A1 n1 c1, .int .i64 a, .int .i64 b, .int .i64 d] w fun e w' => e = .returned (.bool true) ∧ Below w.heap.size w w' := by
  by_cases hm1 : n1 ≤ 1048576
  · skip
    by_cases hz0 : (n0 : Int) ≤ 1048576
    · skip
      have hm0 : n0 ≤ 1048576 := by omega
      have lf0 := Lib.hid (show (if (n0 : Int) ≤ 1048576 then 1048576 - (n0 : Int) else -1) = 1048576 - (n0 : Int) from if_pos hz0)
      have lp0 : ¬ (1048576 - (n0 : Int) < 0) := by omega
      have le0 := Lib.hid h0.1
      have ha0 := Lib.hid h0; clear h0
      have le1 := Lib.hid h1.1
      have ha1 := Lib.hid h1; clear h1
      have hq1 : (mvOk l0 l1 a b d != mvOk l0 l1 a b d) = false := by simp
      have hlen := Lib.hid (mvR_len l0 l1 a b d)
      have u := Lib.hid (Below.refl w.heap.size w)
      go_enter Try.func8, Try.ntmps8
      go_wp2_with (first | (go_at_call 31; refine (szBlk_g _ n0 _ (1048576) _ hn0 (by omega) (by omega)).mono ?_; rintro e w' ⟨rfl, rfl⟩; rw [lf0.out]))
      refine (toBlk_g A0 n0 c0 l0 _ (ha0.out.up u.out) hm0).mono ?_
      rintro e w1 ⟨gm0, rfl, rm0, b1, d1, e1⟩
      have xm0 := Lib.hid rm0; clear rm0
      have lom0 := Lib.hid d1; have him0 := Lib.hid e1; clear d1 e1
      have bam0 := Lib.hid u.out.size
      replace u := Lib.hid (u.out.trans (b1.mono u.out.size))
      clear b1
      go_wp2_with fail
      refine (toInt_g A1 n1 c1 l1 _ (ha1.out.up' u.out) hm1).mono ?_
      rintro e w2 ⟨gm1, rfl, rm1, b2, d2, e2⟩
      have xm1 := Lib.hid rm1; clear rm1
      have lom1 := Lib.hid d2; have him1 := Lib.hid e2; clear d2 e2
      have bam1 := Lib.hid u.out.size
      replace u := Lib.hid (u.out.trans (b2.mono u.out.size))
      replace xm0 := Lib.hid (rowIs_below xm0.out b2 xm0.out.lt)
      clear b2
      go_wp2_with fail
      refine (specMv_any _ n0 _ l0 _ n1 _ l1 a b d _ (row_blks' le0.out xm0.out) (row_ints le1.out xm1.out) hm0 hm1).mono ?_
      rintro e w3 ⟨AM, nM, cM, rfl, oM, b3⟩
      have hnM : nM ≤ 100 := by rw [← oM.len]; exact hlen.out
      have hiM := Lib.hid (fun ad (e : AM = some ad) => (oM.low ad e).2)
      have yM := Lib.hid oM; clear oM
      replace u := Lib.hid (u.out.trans (b3.mono u.out.size))
      clear b3
      clear xm0 lom0 him0 bam0 xm1 lom1 him1 bam1
      go_wp2_with fail
      refine (toBlk_g A0 n0 c0 l0 _ (ha0.out.up u.out) hm0).mono ?_
      rintro e w4 ⟨gp0, rfl, rp0, b4, d4, e4⟩
      have xp0 := Lib.hid rp0; clear rp0
      have lop0 := Lib.hid d4; have hip0 := Lib.hid e4; clear d4 e4
      have bap0 := Lib.hid u.out.size
      replace u := Lib.hid (u.out.trans (b4.mono u.out.size))
      replace yM := Lib.hid (yM.out.below b4)
      clear b4
      have ltM := Lib.hid (fun ad (e : AM = some ad) => Nat.lt_of_lt_of_le (hiM.out ad e) lop0.out)
      clear hiM
      go_wp2_with fail
      refine (toInt_g A1 n1 c1 l1 _ (ha1.out.up' u.out) hm1).mono ?_
      rintro e w5 ⟨gp1, rfl, rp1, b5, d5, e5⟩
      have xp1 := Lib.hid rp1; clear rp1
      have lop1 := Lib.hid d5; have hip1 := Lib.hid e5; clear d5 e5
      have bap1 := Lib.hid u.out.size
      replace u := Lib.hid (u.out.trans (b5.mono u.out.size))
      replace yM := Lib.hid (yM.out.below b5)
      replace xp0 := Lib.hid (rowIs_below xp0.out b5 xp0.out.lt)
      clear b5
      go_wp2_with fail
      refine (implMv_any _ n0 _ l0 _ n1 _ l1 a b d _ (row_blks' le0.out xp0.out) (row_ints le1.out xp1.out) hm0 hm1).mono ?_
      rintro e w6 ⟨AP, nP, cP, rfl, oP, b6⟩
      have hnP : nP ≤ 100 := by rw [← oP.len]; exact hlen.out
      have gtP := Lib.hid (fun ad (e : AP = some ad) => Nat.lt_of_lt_of_le hip1.out (oP.low ad e).1)
      have yP := Lib.hid oP; clear oP
      have orp1 := Lib.hid (Nat.lt_of_lt_of_le hip0.out lop1.out)
      replace u := Lib.hid (u.out.trans (b6.mono u.out.size))
      replace yM := Lib.hid (yM.out.below b6)
      replace xp0 := Lib.hid (rowIs_below xp0.out b6 xp0.out.lt)
      replace xp1 := Lib.hid (rowIs_below xp1.out b6 xp1.out.lt)
      clear b6
      go_wp2_with fail
      refine (eqInt_b AP AM nP nM cP cM _ _ yP.out.ints yM.out.ints (by omega) (by omega)).mono ?_
      rintro e w7 ⟨rfl, b7⟩
      replace u := Lib.hid (u.out.trans (b7.mono u.out.size))
      replace yM := Lib.hid (yM.out.below b7)
      replace xp0 := Lib.hid (rowIs_below xp0.out b7 xp0.out.lt)
      replace xp1 := Lib.hid (rowIs_below xp1.out b7 xp1.out.lt)
      replace yP := Lib.hid (yP.out.below b7)
      clear b7
      go_wp2_with fail
      refine (toBlk_g A0 n0 c0 l0 _ (ha0.out.up u.out) hm0).mono ?_
      rintro e w8 ⟨gq0, rfl, rq0, b8, d8, e8⟩
      have xq0 := Lib.hid rq0; clear rq0
      have loq0 := Lib.hid d8; have hiq0 := Lib.hid e8; clear d8 e8
      have baq0 := Lib.hid u.out.size
      replace u := Lib.hid (u.out.trans (b8.mono u.out.size))
      replace yM := Lib.hid (yM.out.below b8)
      replace xp0 := Lib.hid (rowIs_below xp0.out b8 xp0.out.lt)
      replace xp1 := Lib.hid (rowIs_below xp1.out b8 xp1.out.lt)
      replace yP := Lib.hid (yP.out.below b8)
      clear b8
      go_wp2_with fail
      refine (eqBlk_b _ _ n0 n0 _ _ l0 _ (row_blks' le0.out xp0.out) (row_blks' le0.out xq0.out) hm0 hm0).mono ?_
      rintro e w9 ⟨rfl, b9⟩
      replace u := Lib.hid (u.out.trans (b9.mono u.out.size))
      replace yM := Lib.hid (yM.out.below b9)
      replace xp0 := Lib.hid (rowIs_below xp0.out b9 xp0.out.lt)
      replace xp1 := Lib.hid (rowIs_below xp1.out b9 xp1.out.lt)
      replace yP := Lib.hid (yP.out.below b9)
      clear b9
      clear xq0 loq0 hiq0 baq0
      go_wp2_with fail
      refine (toInt_g A1 n1 c1 l1 _ (ha1.out.up' u.out) hm1).mono ?_
      rintro e w10 ⟨gq1, rfl, rq1, b10, d10, e10⟩
      have xq1 := Lib.hid rq1; clear rq1
      have loq1 := Lib.hid d10; have hiq1 := Lib.hid e10; clear d10 e10
      have baq1 := Lib.hid u.out.size
      replace u := Lib.hid (u.out.trans (b10.mono u.out.size))
      replace yM := Lib.hid (yM.out.below b10)
      replace xp0 := Lib.hid (rowIs_below xp0.out b10 xp0.out.lt)
      replace xp1 := Lib.hid (rowIs_below xp1.out b10 xp1.out.lt)
      replace yP := Lib.hid (yP.out.below b10)
      clear b10
      go_wp2_with fail
      refine (eqInt_b _ _ n1 n1 _ _ l1 _ (row_ints le1.out xp1.out) (row_ints le1.out xq1.out) hm1 hm1).mono ?_
      rintro e w11 ⟨rfl, b11⟩
      replace u := Lib.hid (u.out.trans (b11.mono u.out.size))
      replace yM := Lib.hid (yM.out.below b11)
      replace xp0 := Lib.hid (rowIs_below xp0.out b11 xp0.out.lt)
      replace xp1 := Lib.hid (rowIs_below xp1.out b11 xp1.out.lt)
      replace yP := Lib.hid (yP.out.below b11)
      clear b11
      clear xq1 loq1 hiq1 baq1
      go_wp2_with fail
      refine (markBlk_b gp0 n0 _ _ (1) _ xp0.out hm0 (by omega) (by omega)).mono ?_
      rintro e w12 ⟨rfl, o12⟩
      replace u := Lib.hid (u.out.trans (o12.below (fun ad e => by cases e; have := bap0.out; have := lop0.out; show w.heap.size ≤ gp0; omega)))
      replace yM := Lib.hid (yM.out.only o12 (fun ad ad' e e' => by cases e'; have := ltM.out ad e; show ad.block ≠ gp0; omega))
      replace yP := Lib.hid (yP.out.only o12 (fun ad ad' e e' => by cases e'; have := gtP.out ad e; have := orp1.out; show ad.block ≠ gp0; omega))
      clear xp0
      replace xp1 := Lib.hid (rowIs_only xp1.out o12 (fun ad e => by cases e; have := orp1.out; show gp1 ≠ gp0; omega))
      clear o12
      go_wp2_with fail
      refine (markInt_b gp1 n1 _ l1 (1 + (n0 : Int) * 2) _ le1.out xp1.out hm1 (by omega) (by omega)).mono ?_
      rintro e w13 ⟨rfl, o13⟩
      replace u := Lib.hid (u.out.trans (o13.below (fun ad e => by cases e; have := bap0.out; have := lop0.out; have := orp1.out; show w.heap.size ≤ gp1; omega)))
      replace yM := Lib.hid (yM.out.only o13 (fun ad ad' e e' => by cases e'; have := ltM.out ad e; have := orp1.out; show ad.block ≠ gp1; omega))
      replace yP := Lib.hid (yP.out.only o13 (fun ad ad' e e' => by cases e'; have := gtP.out ad e; show ad.block ≠ gp1; omega))
      clear xp1
      clear o13
      have hk0 : ¬ (1 + (n0 : Int) * 2 + (n1 : Int) < 0) := by omega
      go_wp2_with fail
      refine (eqInt_b AP AM nP nM cP cM _ _ yP.out.ints yM.out.ints (by omega) (by omega)).mono ?_
      rintro e w14 ⟨rfl, b14⟩
      replace u := Lib.hid (u.out.trans (b14.mono u.out.size))
      replace yM := Lib.hid (yM.out.below b14)
      replace yP := Lib.hid (yP.out.below b14)
      clear b14
      clear hk0
      go_wp2_with fail
      refine (markRes_b AP nP cP _ _ 1 _ yP.out (by omega) (by decide) (by decide)).mono ?_
      rintro e w15 ⟨rfl, oP2, o15⟩
      replace u := Lib.hid (u.out.trans (o15.below (fun ad e => by have := gtP.out ad e; have := bap0.out; have := lop0.out; have := orp1.out; omega)))
      replace yM := Lib.hid (yM.out.only o15 (fun ad ad' e e' => by have := ltM.out ad e; have := gtP.out ad' e'; have := orp1.out; omega))
      clear yP
      have yP := Lib.hid oP2; clear oP2
      clear o15
      go_wp2_with fail
      refine (held_b AP nP cP 1 _ yP.out.ints (by omega) (by decide) (by decide)).mono ?_
      rintro e w16 ⟨rfl, b16⟩
      replace u := Lib.hid (u.out.trans (b16.mono u.out.size))
      replace yM := Lib.hid (yM.out.below b16)
      replace yP := Lib.hid (yP.out.below b16)
      clear b16
      have hlt0 : ¬ (1 + (nP : Int)) < 0 := by omega
      have hne : ((1 + (nP : Int)) != (1 + (nP : Int))) = false := by simp
      go_wp2_with fail
      refine (toBlk_g A0 n0 c0 l0 _ (ha0.out.up u.out) hm0).mono ?_
      rintro e w17 ⟨gh0, rfl, rh0, b17, d17, e17⟩
      have xh0 := Lib.hid rh0; clear rh0
      have loh0 := Lib.hid d17; have hih0 := Lib.hid e17; clear d17 e17
      have bah0 := Lib.hid u.out.size
      replace u := Lib.hid (u.out.trans (b17.mono u.out.size))
      replace yM := Lib.hid (yM.out.below b17)
      replace yP := Lib.hid (yP.out.below b17)
      clear b17
      go_wp2_with fail
      refine (toInt_g A1 n1 c1 l1 _ (ha1.out.up' u.out) hm1).mono ?_
      rintro e w18 ⟨gh1, rfl, rh1, b18, d18, e18⟩
      have xh1 := Lib.hid rh1; clear rh1
      have loh1 := Lib.hid d18; have hih1 := Lib.hid e18; clear d18 e18
      have bah1 := Lib.hid u.out.size
      replace u := Lib.hid (u.out.trans (b18.mono u.out.size))
      replace yM := Lib.hid (yM.out.below b18)
      replace yP := Lib.hid (yP.out.below b18)
      replace xh0 := Lib.hid (rowIs_below xh0.out b18 xh0.out.lt)
      clear b18
      go_wp2_with fail
      refine (implMv_any _ n0 _ l0 _ n1 _ l1 a b d _ (row_blks' le0.out xh0.out) (row_ints le1.out xh1.out) hm0 hm1).mono ?_
      rintro e w19 ⟨AH, nH, cH, rfl, oH, b19⟩
      have hnH : nH ≤ 100 := by rw [← oH.len]; exact hlen.out
      have yH := Lib.hid oH; clear oH
      clear xh0 loh0 hih0 bah0 xh1 loh1 hih1 bah1
      replace u := Lib.hid (u.out.trans (b19.mono u.out.size))
      replace yM := Lib.hid (yM.out.below b19)
      replace yP := Lib.hid (yP.out.below b19)
      clear b19
      go_wp2_with fail
      refine (eqInt_b AH AM nH nM cH cM _ _ yH.out.ints yM.out.ints (by omega) (by omega)).mono ?_
      rintro e w20 ⟨rfl, b20⟩
      replace u := Lib.hid (u.out.trans (b20.mono u.out.size))
      replace yM := Lib.hid (yM.out.below b20)
      replace yP := Lib.hid (yP.out.below b20)
      replace yH := Lib.hid (yH.out.below b20)
      clear b20
      go_wp2_with fail
      refine (held_b AP nP cP 1 _ yP.out.ints (by omega) (by decide) (by decide)).mono ?_
      rintro e w21 ⟨rfl, b21⟩
      replace u := Lib.hid (u.out.trans (b21.mono u.out.size))
      replace yM := Lib.hid (yM.out.below b21)
      replace yP := Lib.hid (yP.out.below b21)
      replace yH := Lib.hid (yH.out.below b21)
      clear b21
      go_wp2_with fail
      go_ret
      exact ⟨rfl, u.out⟩
    · have lf0 := Lib.hid (show (if (n0 : Int) ≤ 1048576 then 1048576 - (n0 : Int) else -1) = -1 from if_neg hz0)
      clear h0 h1
      go_enter Try.func8, Try.ntmps8
      go_wp2_with (first | (go_at_call 31; refine (szBlk_g _ n0 _ (1048576) _ hn0 (by omega) (by omega)).mono ?_; rintro e w' ⟨rfl, rfl⟩; rw [lf0.out]))
      go_ret
      exact ⟨rfl, Below.refl _ _⟩
  · have hgt : (1048576 : Int) < (n1 : Int) := by omega
    go_enter Try.func8, Try.ntmps8
    go_wp2
    go_ret
    exact ⟨rfl, Below.refl _ _⟩
end Go.Proofs.Ytbggglddgpeobab
