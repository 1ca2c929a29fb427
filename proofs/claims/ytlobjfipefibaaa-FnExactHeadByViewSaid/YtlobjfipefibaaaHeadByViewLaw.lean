/- What is proved here: the law on HeadByView returns true at every argument, and writes nothing that was there. No conditions. -/
import Derived.Test.YtlobjfipefibaaaViewHead
import Derived.Test.YtlobjfipefibaaaViewBox
import Derived.Deep.Cut
import Derived.Deep.CutRange
import Derived.Deep.RegionHeld3
namespace Go.Proofs.Ytlobjfipefibaaa
open Go.RowKit

set_option maxRecDepth 100000 in
set_option maxHeartbeats 32000000 in
theorem lawHeadByView (A0 : Option Addr) (n0 c0 : Nat) (l0 : List Blk) (A1 : Option Addr) (n1 c1 : Nat) (l1 : List Int) (A2 : Option Addr) (n2 c2 : Nat) (l2 : List Vt) (A3 : Option Addr) (n3 c3 : Nat) (l3 : List Vt) (w : World) (h0 : BlksAt w w.heap.size A0 n0 l0) (hn0 : n0 ≤ 140737488351232) (h1 : IntsAt w w.heap.size A1 n1 l1) (hn1 : n1 ≤ 140737488351232) (h2 : VotesAt w w.heap.size A2 n2 l2) (hn2 : n2 ≤ 9223372036854775807) (h3 : VotesAt w w.heap.size A3 n3 l3) (hn3 : n3 ≤ 9223372036854775807) :
    Calls Try.prog 10 #[.slice A0 n0 c0, .slice A1 n1 c1, .agg #[.slice A2 n2 c2, .slice A3 n3 c3]] w fun e w' => e = .returned (.bool true) ∧ Below w.heap.size w w' := by
  have u := Lib.hid (Below.refl w.heap.size w)
  have xB2 := Lib.hid (bx_row2 (w) (.slice A2 n2 c2) (.slice A3 n3 c3) 59)
  replace u := Lib.hid (u.out.trans ((bx_below (w) (.cells #[.slice A2 n2 c2, .slice A3 n3 c3] 59)).mono u.out.size))
  have sz := Lib.hid (show w.heap.size + 1 ≤ ((w).alloc (.cells #[.slice A2 n2 c2, .slice A3 n3 c3] 59)).heap.size by simp)
  have lo_xB2 := Lib.hid (show w.heap.size + 0 ≤ w.heap.size by omega)
  have hi_xB2 := Lib.hid (show w.heap.size < w.heap.size + 1 by omega)
  have hcB2_0 := row2_0 (xB2.out)
  have hcB2_1 := row2_1 (xB2.out)
  by_cases hm1 : n1 ≤ 1048576
  · skip
    by_cases hz0 : (n0 : Int) ≤ 1048576
    · skip
      have hm0 : n0 ≤ 1048576 := by omega
      have lf0 := Lib.hid (show (if (n0 : Int) ≤ 1048576 then 1048576 - (n0 : Int) else -1) = 1048576 - (n0 : Int) from if_pos hz0)
      have lp0 : ¬ (1048576 - (n0 : Int) < 0) := by omega
      by_cases hz2 : ((n2 : Int) + (n3 : Int)) ≤ 1048576 - (n0 : Int)
      · skip
        have hm2 : n2 ≤ 1048576 := by omega
        have hm3 : n3 ≤ 1048576 := by omega
        have lf2 := Lib.hid (show (if ((n2 : Int) + (n3 : Int)) ≤ 1048576 - (n0 : Int) then 1048576 - (n0 : Int) - ((n2 : Int) + (n3 : Int)) else -1) = 1048576 - (n0 : Int) - ((n2 : Int) + (n3 : Int)) from if_pos hz2)
        have lp2 : ¬ (1048576 - (n0 : Int) - ((n2 : Int) + (n3 : Int)) < 0) := by omega
        have le0 := Lib.hid h0.1; have ha0 := Lib.hid h0
        have le1 := Lib.hid h1.1; have ha1 := Lib.hid h1
        have le2 := Lib.hid h2.1; have ha2 := Lib.hid h2
        have le3 := Lib.hid h3.1; have ha3 := Lib.hid h3
        clear h0 h1 h2 h3 hz0 hz2
        have hq0 : (hbR l0 l1 l2 l3 != hbR l0 l1 l2 l3) = false := by simp
        have hq1 : (viewOk l0 l1 l2 l3 != viewOk l0 l1 l2 l3) = false := by simp
        go_enter Try.func10, Try.ntmps10
        have tk0 : True := trivial
        go_upto_region 10 with (first
          | (clear tk0; go_at_call 14; refine (szBlk_g _ n0 _ (1048576) _ hn0 (by omega) (by omega)).mono ?_; rintro e w' ⟨rfl, rfl⟩; rw [lf0.out]; have tk1 : True := trivial)
          | (clear tk1; go_at_call 37; refine (szView_g _ n2 _ _ n3 _ (1048576 - (n0 : Int)) _ hn2 hn3 (by omega) (by omega)).mono ?_; rintro e w2z ⟨rfl, bz⟩; rw [lf2.out]; replace u := Lib.hid (u.out.trans (bz.mono u.out.size)); replace sz := Lib.hid (Nat.le_trans sz.out bz.size); replace xB2 := Lib.hid (rowIs_below xB2.out bz xB2.out.lt); clear bz hcB2_0 hcB2_1; have hcB2_0 := row2_0 (xB2.out); have hcB2_1 := row2_1 (xB2.out); have tk2 : True := trivial))
        clear tk2
        go_cut [8, 9] from 28 to 37 (fun s t wx => s = .int .i64 (hbR l0 l1 l2 l3) ∧ t = .bool (viewOk l0 l1 l2 l3) ∧ Hid (Below w2z.heap.size w2z wx))
        case first =>
          have tk0 : True := trivial
          go_region_with (first
            | (clear tk0
               go_at_call 17
               refine (toBlk_g A0 n0 c0 l0 _ (show BlksAt w2z.drew w2z.drew.heap.size A0 n0 l0 from ⟨(ha0.out.up u.out).1, (ha0.out.up u.out).2⟩) hm0).mono ?_
               rintro e wy0 ⟨gy0, rfl, ry0, by0, dy0, fy0⟩
               have by_ := by0
               have y0 := Lib.hid ry0
               have ua0 := Lib.hid (show Below w2z.heap.size w2z wy0 from ⟨by_.os, by_.tape, by_.output, by_.size, by_.block⟩)
               have hd0_2_0 := row2_0 (rowIs_below xB2.out ua0.out xB2.out.lt)
               have hd0_2_1 := row2_1 (rowIs_below xB2.out ua0.out xB2.out.lt)
               clear ry0 by_ by0
               have tk1 : True := trivial)
            | (clear tk1
               go_at_call 18
               refine (toInt_g A1 n1 c1 l1 _ (ha1.out.up' (u.out.trans (ua0.out.mono u.out.size))) hm1).mono ?_
               rintro e wy1 ⟨gy1, rfl, ry1, by0, dy1, fy1⟩
               have by_ := by0
               have y1 := Lib.hid ry1
               replace y0 := Lib.hid (rowIs_below y0.out by_ y0.out.lt)
               have ua1 := Lib.hid (ua0.out.trans (by_.mono ua0.out.size))
               have hd1_2_0 := row2_0 (rowIs_below xB2.out ua1.out xB2.out.lt)
               have hd1_2_1 := row2_1 (rowIs_below xB2.out ua1.out xB2.out.lt)
               clear ry1 by_ by0
               have tk2 : True := trivial)
            | (clear tk2
               go_at_call 39
               refine (toView_g A2 n2 c2 l2 A3 n3 c3 l3 _ (ha2.out.up (u.out.trans (ua1.out.mono u.out.size))) (ha3.out.up (u.out.trans (ua1.out.mono u.out.size))) hm2 hm3).mono ?_
               rintro e wy2 ⟨gy2, gy3, rfl, ry2, ry3, by0, dy2, fy2, fy3⟩
               have by_ := by0
               have y2 := Lib.hid ry2
               have y3 := Lib.hid ry3
               replace y0 := Lib.hid (rowIs_below y0.out by_ y0.out.lt)
               replace y1 := Lib.hid (rowIs_below y1.out by_ y1.out.lt)
               have ua2 := Lib.hid (ua1.out.trans (by_.mono ua1.out.size))
               have hd2_2_0 := row2_0 (rowIs_below xB2.out ua2.out xB2.out.lt)
               have hd2_2_1 := row2_1 (rowIs_below xB2.out ua2.out xB2.out.lt)
               clear ry2 ry3 by_ by0
               have tk3 : True := trivial)
            | (clear tk3
               go_at_call 50
               refine (specHeadBy_any _ n0 _ l0 _ n1 _ l1 _ n2 _ l2 _ n3 _ l3 _ (row_blks' le0.out y0.out) (row_ints le1.out y1.out) (row_votesB le2.out y2.out) (row_votesB le3.out y3.out) hm0 hm1 hm2 hm3 (Nat.le_refl _) (fun e => by cases e) (Nat.le_refl _) (fun e => by cases e)).mono ?_
               rintro e we ⟨rfl, be⟩
               have ue := Lib.hid (ua2.out.trans (be.mono ua2.out.size))
               clear be))
          all_goals
            go_wp2_with fail
            go_meet
            case rel => exact ⟨rfl, rfl, ue⟩
        case rest =>
          obtain ⟨rfl, rfl, k5⟩ := hcut
          skip
          have k6 := k5.out
          clear k5
          clear hcB2_0 hcB2_1
          replace u := Lib.hid (u.out.trans (k6.mono u.out.size))
          replace sz := Lib.hid (Nat.le_trans sz.out k6.size)
          replace xB2 := Lib.hid (rowIs_below xB2.out k6 xB2.out.lt)
          clear k6
          go_wp2_with fail
          refine (toBlk_g A0 n0 c0 l0 _ (ha0.out.up u.out) hm0).mono ?_
          rintro e w6 ⟨g0, rfl, r0, b6, d0, f0⟩
          have x0 := Lib.hid r0; clear r0
          have lo_x0 := Lib.hid (Nat.le_trans sz.out d0); have hi_x0 := Lib.hid f0; clear d0 f0
          replace u := Lib.hid (u.out.trans (b6.mono u.out.size))
          replace sz := Lib.hid (Nat.le_trans sz.out b6.size)
          replace xB2 := Lib.hid (rowIs_below xB2.out b6 xB2.out.lt)
          clear b6
          clear sz
          have sz := Lib.hid (Nat.le_refl w6.heap.size)
          go_wp2_with fail
          refine (toInt_g A1 n1 c1 l1 _ (ha1.out.up' u.out) hm1).mono ?_
          rintro e w7 ⟨g1, rfl, r1, b7, d1, f1⟩
          have x1 := Lib.hid r1; clear r1
          have lo_x1 := Lib.hid (Nat.le_trans sz.out d1); have hi_x1 := Lib.hid f1; clear d1 f1
          replace u := Lib.hid (u.out.trans (b7.mono u.out.size))
          replace sz := Lib.hid (Nat.le_trans sz.out b7.size)
          replace xB2 := Lib.hid (rowIs_below xB2.out b7 xB2.out.lt)
          replace x0 := Lib.hid (rowIs_below x0.out b7 x0.out.lt)
          clear b7
          clear sz
          have sz := Lib.hid (Nat.le_refl w7.heap.size)
          have hcB2_0 := row2_0 (xB2.out)
          have hcB2_1 := row2_1 (xB2.out)
          go_wp2_with fail
          refine (toView_g A2 n2 c2 l2 A3 n3 c3 l3 _ (ha2.out.up u.out) (ha3.out.up u.out) hm2 hm3).mono ?_
          rintro e w8 ⟨g2, g3, rfl, r2, r3, b8, d2, f2, f3⟩
          clear hcB2_0 hcB2_1
          have x2 := Lib.hid r2; clear r2
          have x3 := Lib.hid r3; clear r3
          have lo_x2 := Lib.hid (Nat.le_trans sz.out d2); have hi_x2 := Lib.hid (Nat.lt_succ_self g2)
          have lo_x3 := Lib.hid (Nat.succ_le_of_lt f2); have hi_x3 := Lib.hid f3; clear d2 f2 f3
          replace u := Lib.hid (u.out.trans (b8.mono u.out.size))
          replace sz := Lib.hid (Nat.le_trans sz.out b8.size)
          replace xB2 := Lib.hid (rowIs_below xB2.out b8 xB2.out.lt)
          replace x0 := Lib.hid (rowIs_below x0.out b8 x0.out.lt)
          replace x1 := Lib.hid (rowIs_below x1.out b8 x1.out.lt)
          clear b8
          clear sz
          have sz := Lib.hid (Nat.le_refl w8.heap.size)
          have xb2 := Lib.hid (bx_row2 w8 (.slice (some ⟨g2, 0, none⟩) n2 n2) (.slice (some ⟨g3, 0, none⟩) n3 n3) 63)
          have kk : Below w8.heap.size w8 (w8.alloc (.cells #[.slice (some ⟨g2, 0, none⟩) n2 n2, .slice (some ⟨g3, 0, none⟩) n3 n3] 63)) := bx_below w8 _
          have lo_xb2 := Lib.hid (Nat.le_refl w8.heap.size); have hi_xb2 := Lib.hid (Nat.lt_succ_self w8.heap.size)
          replace u := Lib.hid (u.out.trans (kk.mono u.out.size))
          replace sz := Lib.hid (Nat.le_trans sz.out kk.size)
          replace xB2 := Lib.hid (rowIs_below xB2.out kk xB2.out.lt)
          replace x0 := Lib.hid (rowIs_below x0.out kk x0.out.lt)
          replace x1 := Lib.hid (rowIs_below x1.out kk x1.out.lt)
          replace x2 := Lib.hid (rowIs_below x2.out kk x2.out.lt)
          replace x3 := Lib.hid (rowIs_below x3.out kk x3.out.lt)
          clear kk
          clear sz
          have sz := Lib.hid (show w8.heap.size + 1 ≤ (w8.alloc (.cells #[.slice (some ⟨g2, 0, none⟩) n2 n2, .slice (some ⟨g3, 0, none⟩) n3 n3] 63)).heap.size by simp)
          have hcX2_0 := row2_0 (xb2.out)
          have hcX2_1 := row2_1 (xb2.out)
          go_wp2_with fail
          refine (implHeadBy_any _ n0 _ l0 _ n1 _ l1 _ n2 _ l2 _ n3 _ l3 _ (row_blks' le0.out x0.out) (row_ints le1.out x1.out) (row_votesB le2.out x2.out) (row_votesB le3.out x3.out) hm0 hm1 hm2 hm3 (Nat.le_refl _) (fun e => by cases e) (Nat.le_refl _) (fun e => by cases e)).mono ?_
          rintro e w9 ⟨rfl, b9⟩
          clear hcX2_0 hcX2_1
          replace u := Lib.hid (u.out.trans (b9.mono u.out.size))
          replace sz := Lib.hid (Nat.le_trans sz.out b9.size)
          replace xB2 := Lib.hid (rowIs_below xB2.out b9 xB2.out.lt)
          replace x0 := Lib.hid (rowIs_below x0.out b9 x0.out.lt)
          replace x1 := Lib.hid (rowIs_below x1.out b9 x1.out.lt)
          replace x2 := Lib.hid (rowIs_below x2.out b9 x2.out.lt)
          replace x3 := Lib.hid (rowIs_below x3.out b9 x3.out.lt)
          replace xb2 := Lib.hid (rowIs_below xb2.out b9 xb2.out.lt)
          clear b9
          go_wp2_with fail
          refine (toBlk_g A0 n0 c0 l0 _ (ha0.out.up u.out) hm0).mono ?_
          rintro e w10 ⟨gZ, rfl, rZ, b10, _, _⟩
          have xZ := Lib.hid rZ; clear rZ
          replace u := Lib.hid (u.out.trans (b10.mono u.out.size))
          replace sz := Lib.hid (Nat.le_trans sz.out b10.size)
          replace xB2 := Lib.hid (rowIs_below xB2.out b10 xB2.out.lt)
          replace x0 := Lib.hid (rowIs_below x0.out b10 x0.out.lt)
          replace x1 := Lib.hid (rowIs_below x1.out b10 x1.out.lt)
          replace x2 := Lib.hid (rowIs_below x2.out b10 x2.out.lt)
          replace x3 := Lib.hid (rowIs_below x3.out b10 x3.out.lt)
          replace xb2 := Lib.hid (rowIs_below xb2.out b10 xb2.out.lt)
          clear b10
          go_wp2_with fail
          refine (eqBlk_b _ _ n0 n0 _ _ l0 _ (row_blks' le0.out x0.out) (row_blks' le0.out xZ.out) hm0 hm0).mono ?_
          rintro e w11 ⟨rfl, b11⟩
          replace u := Lib.hid (u.out.trans (b11.mono u.out.size))
          replace sz := Lib.hid (Nat.le_trans sz.out b11.size)
          replace xB2 := Lib.hid (rowIs_below xB2.out b11 xB2.out.lt)
          replace x0 := Lib.hid (rowIs_below x0.out b11 x0.out.lt)
          replace x1 := Lib.hid (rowIs_below x1.out b11 x1.out.lt)
          replace x2 := Lib.hid (rowIs_below x2.out b11 x2.out.lt)
          replace x3 := Lib.hid (rowIs_below x3.out b11 x3.out.lt)
          replace xb2 := Lib.hid (rowIs_below xb2.out b11 xb2.out.lt)
          replace xZ := Lib.hid (rowIs_below xZ.out b11 xZ.out.lt)
          clear b11
          clear xZ
          go_wp2_with fail
          refine (toInt_g A1 n1 c1 l1 _ (ha1.out.up' u.out) hm1).mono ?_
          rintro e w12 ⟨gZ, rfl, rZ, b12, _, _⟩
          have xZ := Lib.hid rZ; clear rZ
          replace u := Lib.hid (u.out.trans (b12.mono u.out.size))
          replace sz := Lib.hid (Nat.le_trans sz.out b12.size)
          replace xB2 := Lib.hid (rowIs_below xB2.out b12 xB2.out.lt)
          replace x0 := Lib.hid (rowIs_below x0.out b12 x0.out.lt)
          replace x1 := Lib.hid (rowIs_below x1.out b12 x1.out.lt)
          replace x2 := Lib.hid (rowIs_below x2.out b12 x2.out.lt)
          replace x3 := Lib.hid (rowIs_below x3.out b12 x3.out.lt)
          replace xb2 := Lib.hid (rowIs_below xb2.out b12 xb2.out.lt)
          clear b12
          go_wp2_with fail
          refine (eqInt_b _ _ n1 n1 _ _ l1 _ (row_ints le1.out x1.out) (row_ints le1.out xZ.out) hm1 hm1).mono ?_
          rintro e w13 ⟨rfl, b13⟩
          replace u := Lib.hid (u.out.trans (b13.mono u.out.size))
          replace sz := Lib.hid (Nat.le_trans sz.out b13.size)
          replace xB2 := Lib.hid (rowIs_below xB2.out b13 xB2.out.lt)
          replace x0 := Lib.hid (rowIs_below x0.out b13 x0.out.lt)
          replace x1 := Lib.hid (rowIs_below x1.out b13 x1.out.lt)
          replace x2 := Lib.hid (rowIs_below x2.out b13 x2.out.lt)
          replace x3 := Lib.hid (rowIs_below x3.out b13 x3.out.lt)
          replace xb2 := Lib.hid (rowIs_below xb2.out b13 xb2.out.lt)
          replace xZ := Lib.hid (rowIs_below xZ.out b13 xZ.out.lt)
          clear b13
          clear xZ
          have hcB2_0 := row2_0 (xB2.out)
          have hcB2_1 := row2_1 (xB2.out)
          have hcX2_0 := row2_0 (xb2.out)
          have hcX2_1 := row2_1 (xb2.out)
          have hT2 := Lib.hid (toView_g A2 n2 c2 l2 A3 n3 c3 l3 w13.drew (show VotesAt w13.drew w13.drew.heap.size A2 n2 l2 from ⟨(ha2.out.up u.out).1, (ha2.out.up u.out).2⟩) (show VotesAt w13.drew w13.drew.heap.size A3 n3 l3 from ⟨(ha3.out.up u.out).1, (ha3.out.up u.out).2⟩) hm2 hm3)
          go_upto_region 21 with fail
          go_cut [73] from 69 to 73 (fun s wx => s = .bool false ∧ Hid (Below w13.heap.size w13 wx))
          case first =>
            go_region_with (first
              | (go_at_call 39
                 refine hT2.out.mono ?_
                 rintro e wa ⟨ga2, ga3, rfl, ra2, ra3, ba, da2, fa2, fa3⟩
                 have xa2 := Lib.hid ra2
                 have xa3 := Lib.hid ra3
                 have ua := Lib.hid (show Below w13.heap.size w13 wa from ⟨ba.os, ba.tape, ba.output, ba.size, ba.block⟩)
                 have hd1_0 := row2_0 (rowIs_below xB2.out ua.out xB2.out.lt)
                 have hd1_1 := row2_1 (rowIs_below xB2.out ua.out xB2.out.lt)
                 have hd2_0 := row2_0 (rowIs_below xb2.out ua.out xb2.out.lt)
                 have hd2_1 := row2_1 (rowIs_below xb2.out ua.out xb2.out.lt)
                 have xR2 := Lib.hid (rowIs_below x2.out ua.out x2.out.lt)
                 have xR3 := Lib.hid (rowIs_below x3.out ua.out x3.out.lt)
                 clear ba ra2 ra3)
              | (go_at_call 41
                 refine (eqView_b _ _ n2 n2 n2 n2 l2 _ _ n3 n3 n3 n3 l3 _ (row_votesB le2.out xR2.out) (row_votesB le2.out xa2.out) (row_votesB le3.out xR3.out) (row_votesB le3.out xa3.out) hm2 hm2 hm3 hm3).mono ?_
                 rintro e wb ⟨rfl, bb⟩
                 have ub := Lib.hid (ua.out.trans (bb.mono ua.out.size))
                 clear bb))
            all_goals
              go_wp2_with fail
              go_meet
              case rel => exact ⟨rfl, ub⟩
          case rest =>
            obtain ⟨rfl, k6⟩ := hcut
            have k7 := k6.out
            clear k6 hT2 hcB2_0 hcB2_1 hcX2_0 hcX2_1
            replace u := Lib.hid (u.out.trans (k7.mono u.out.size))
            replace sz := Lib.hid (Nat.le_trans sz.out k7.size)
            replace xB2 := Lib.hid (rowIs_below xB2.out k7 xB2.out.lt)
            replace x0 := Lib.hid (rowIs_below x0.out k7 x0.out.lt)
            replace x1 := Lib.hid (rowIs_below x1.out k7 x1.out.lt)
            replace x2 := Lib.hid (rowIs_below x2.out k7 x2.out.lt)
            replace x3 := Lib.hid (rowIs_below x3.out k7 x3.out.lt)
            replace xb2 := Lib.hid (rowIs_below xb2.out k7 xb2.out.lt)
            clear k7
            go_wp2_with fail
            go_ret
            exact ⟨rfl, u.out⟩
      · skip
        have lf2 := Lib.hid (show (if ((n2 : Int) + (n3 : Int)) ≤ 1048576 - (n0 : Int) then 1048576 - (n0 : Int) - ((n2 : Int) + (n3 : Int)) else -1) = -1 from if_neg hz2)
        clear h0 h1 h2 h3
        go_enter Try.func10, Try.ntmps10
        have tk0 : True := trivial
        go_wp2_with (first
          | (clear tk0; go_at_call 14; refine (szBlk_g _ n0 _ (1048576) _ hn0 (by omega) (by omega)).mono ?_; rintro e w' ⟨rfl, rfl⟩; rw [lf0.out]; have tk1 : True := trivial)
          | (clear tk1; go_at_call 37; refine (szView_g _ n2 _ _ n3 _ (1048576 - (n0 : Int)) _ hn2 hn3 (by omega) (by omega)).mono ?_; rintro e w2z ⟨rfl, bz⟩; rw [lf2.out]; replace u := Lib.hid (u.out.trans (bz.mono u.out.size)); replace sz := Lib.hid (Nat.le_trans sz.out bz.size); replace xB2 := Lib.hid (rowIs_below xB2.out bz xB2.out.lt); clear bz hcB2_0 hcB2_1; have hcB2_0 := row2_0 (xB2.out); have hcB2_1 := row2_1 (xB2.out); have tk2 : True := trivial))
        go_ret
        exact ⟨rfl, u.out⟩
    · skip
      have lf0 := Lib.hid (show (if (n0 : Int) ≤ 1048576 then 1048576 - (n0 : Int) else -1) = -1 from if_neg hz0)
      clear h0 h1 h2 h3
      go_enter Try.func10, Try.ntmps10
      have tk0 : True := trivial
      go_wp2_with (first
        | (clear tk0; go_at_call 14; refine (szBlk_g _ n0 _ (1048576) _ hn0 (by omega) (by omega)).mono ?_; rintro e w' ⟨rfl, rfl⟩; rw [lf0.out]; have tk1 : True := trivial))
      go_ret
      exact ⟨rfl, u.out⟩
  · skip
    have hgt : (1048576 : Int) < (n1 : Int) := by omega
    clear h0 h1 h2 h3
    go_enter Try.func10, Try.ntmps10
    go_wp2_with fail
    go_ret
    exact ⟨rfl, u.out⟩
end Go.Proofs.Ytlobjfipefibaaa
