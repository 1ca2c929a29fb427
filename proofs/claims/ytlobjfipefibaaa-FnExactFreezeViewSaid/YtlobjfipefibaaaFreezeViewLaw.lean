/- What is proved here: the law on FreezeView returns true at every argument, and writes nothing that was there. No conditions. -/
import Derived.Test.YtlobjfipefibaaaViewFns
import Derived.Test.YtlobjfipefibaaaViewSpec2
import Derived.Test.YtlobjfipefibaaaViewBox
import Derived.Deep.Cut
import Derived.Deep.CutRange
import Derived.Deep.RegionHeld3
namespace Go.Proofs.Ytlobjfipefibaaa
open Go.RowKit

set_option maxRecDepth 100000 in
set_option maxHeartbeats 32000000 in
theorem lawFreezeView (A0 : Option Addr) (n0 c0 : Nat) (l0 : List Blk) (A1 : Option Addr) (n1 c1 : Nat) (l1 : List Int) (A2 : Option Addr) (n2 c2 : Nat) (l2 : List Vt) (A3 : Option Addr) (n3 c3 : Nat) (l3 : List Vt) (w : World) (h0 : BlksAt w w.heap.size A0 n0 l0) (hn0 : n0 ≤ 140737488351232) (h1 : IntsAt w w.heap.size A1 n1 l1) (hn1 : n1 ≤ 140737488351232) (h2 : VotesAt w w.heap.size A2 n2 l2) (hn2 : n2 ≤ 9223372036854775807) (h3 : VotesAt w w.heap.size A3 n3 l3) (hn3 : n3 ≤ 9223372036854775807) :
    Calls Try.prog 8 #[.slice A0 n0 c0, .slice A1 n1 c1, .agg #[.slice A2 n2 c2, .slice A3 n3 c3]] w fun e w' => e = .returned (.bool true) ∧ Below w.heap.size w w' := by
  have u := Lib.hid (Below.refl w.heap.size w)
  have xB2 := Lib.hid (bx_row2 (w) (.slice A2 n2 c2) (.slice A3 n3 c3) 59)
  replace u := Lib.hid (u.out.trans ((bx_below (w) (.cells #[.slice A2 n2 c2, .slice A3 n3 c3] 59)).mono u.out.size))
  have sz := Lib.hid (show w.heap.size + 1 ≤ ((w).alloc (.cells #[.slice A2 n2 c2, .slice A3 n3 c3] 59)).heap.size by simp)
  have lo_xB2 := Lib.hid (show w.heap.size + 0 ≤ w.heap.size by omega)
  have hi_xB2 := Lib.hid (show w.heap.size < w.heap.size + 1 by omega)
  have hcB2_0 := row2_0 (xB2.out)
  have hcB2_1 := row2_1 (xB2.out)
  by_cases hm1 : n1 ≤ 1048576
  · skip
    by_cases hz0 : (n0 : Int) ≤ 1048576
    · skip
      have hm0 : n0 ≤ 1048576 := by omega
      have lf0 := Lib.hid (show (if (n0 : Int) ≤ 1048576 then 1048576 - (n0 : Int) else -1) = 1048576 - (n0 : Int) from if_pos hz0)
      have lp0 : ¬ (1048576 - (n0 : Int) < 0) := by omega
      by_cases hz2 : ((n2 : Int) + (n3 : Int)) ≤ 1048576 - (n0 : Int)
      · skip
        have hm2 : n2 ≤ 1048576 := by omega
        have hm3 : n3 ≤ 1048576 := by omega
        have lf2 := Lib.hid (show (if ((n2 : Int) + (n3 : Int)) ≤ 1048576 - (n0 : Int) then 1048576 - (n0 : Int) - ((n2 : Int) + (n3 : Int)) else -1) = 1048576 - (n0 : Int) - ((n2 : Int) + (n3 : Int)) from if_pos hz2)
        have lp2 : ¬ (1048576 - (n0 : Int) - ((n2 : Int) + (n3 : Int)) < 0) := by omega
        have le0 := Lib.hid h0.1; have ha0 := Lib.hid h0
        have le1 := Lib.hid h1.1; have ha1 := Lib.hid h1
        have le2 := Lib.hid h2.1; have ha2 := Lib.hid h2
        have le3 := Lib.hid h3.1; have ha3 := Lib.hid h3
        clear h0 h1 h2 h3 hz0 hz2
        have hq0 : (viewOk l0 l1 l2 l3 != viewOk l0 l1 l2 l3) = false := by simp
        have hlen0 := Lib.hid (frzR_len l0 l1 l2 l3)
        have hlen1 := Lib.hid (frzR_len l0 l1 l2 l3)
        go_enter Try.func8, Try.ntmps8
        have tk0 : True := trivial
        go_upto_region 10 with (first
          | (clear tk0; go_at_call 14; refine (szBlk_g _ n0 _ (1048576) _ hn0 (by omega) (by omega)).mono ?_; rintro e w' ⟨rfl, rfl⟩; rw [lf0.out]; have tk1 : True := trivial)
          | (clear tk1; go_at_call 37; refine (szView_g _ n2 _ _ n3 _ (1048576 - (n0 : Int)) _ hn2 hn3 (by omega) (by omega)).mono ?_; rintro e w2z ⟨rfl, bz⟩; rw [lf2.out]; replace u := Lib.hid (u.out.trans (bz.mono u.out.size)); replace sz := Lib.hid (Nat.le_trans sz.out bz.size); replace xB2 := Lib.hid (rowIs_below xB2.out bz xB2.out.lt); clear bz hcB2_0 hcB2_1; have hcB2_0 := row2_0 (xB2.out); have hcB2_1 := row2_1 (xB2.out); have tk2 : True := trivial))
        clear tk2
        go_cut [8, 9] from 33 to 42 (fun s t wx => ∃ AX nX cX AY nY cY pX, s = .pointer (some ⟨pX, 0, none⟩) ∧ t = .bool (viewOk l0 l1 l2 l3) ∧ Hid (OwnV wx w2z.heap.size AX nX (frzR l0 l1 l2 l3)) ∧ Hid (OwnV wx w2z.heap.size AY nY (frzR l0 l1 l2 l3)) ∧ Hid (Apart AX AY) ∧ Hid (wx.rowIs pX 63 2 (fn2 (.slice AX nX cX) (.slice AY nY cY))) ∧ Hid (w2z.heap.size ≤ pX) ∧ Hid (Below w2z.heap.size w2z wx))
        case first =>
          have tk0 : True := trivial
          have hz_2_0 := row2_0 (rowIs_below (show w2z.drew.rowIs w.heap.size 59 2 (fn2 (.slice A2 n2 c2) (.slice A3 n3 c3)) from xB2.out) (bx_below w2z.drew (.cells #[.slice none 0 0, .slice none 0 0] 63)) (show w.heap.size < w2z.drew.heap.size from xB2.out.lt))
          have hz_2_1 := row2_1 (rowIs_below (show w2z.drew.rowIs w.heap.size 59 2 (fn2 (.slice A2 n2 c2) (.slice A3 n3 c3)) from xB2.out) (bx_below w2z.drew (.cells #[.slice none 0 0, .slice none 0 0] 63)) (show w.heap.size < w2z.drew.heap.size from xB2.out.lt))
          go_region_held3 (fun w' => w'.cell? ⟨w.heap.size, 0, none⟩ = some (.slice A2 n2 c2) ∧ w'.cell? ⟨w.heap.size, 1, none⟩ = some (.slice A3 n3 c3)) (first | assumption | (refine ⟨?_, ?_⟩ <;> assumption) | go_keep) (first
            | (clear tk0
               go_at_call 17
               refine (toBlk_g A0 n0 c0 l0 _ (show BlksAt w2z.drew w2z.drew.heap.size A0 n0 l0 from ⟨(ha0.out.up u.out).1, (ha0.out.up u.out).2⟩) hm0).mono ?_
               rintro e wy0 ⟨gy0, rfl, ry0, by0, dy0, fy0⟩
               have by_ := by0
               have y0 := Lib.hid ry0
               have ua0 := Lib.hid (show Below w2z.heap.size w2z wy0 from ⟨by_.os, by_.tape, by_.output, by_.size, by_.block⟩)
               have hd0_2_0 := row2_0 (rowIs_below xB2.out ua0.out xB2.out.lt)
               have hd0_2_1 := row2_1 (rowIs_below xB2.out ua0.out xB2.out.lt)
               have he0_2_0 := row2_0 (rowIs_below (rowIs_below xB2.out ua0.out xB2.out.lt) (bx_below wy0 (.cells #[.slice none 0 0, .slice none 0 0] 63)) (rowIs_below xB2.out ua0.out xB2.out.lt).lt)
               have he0_2_1 := row2_1 (rowIs_below (rowIs_below xB2.out ua0.out xB2.out.lt) (bx_below wy0 (.cells #[.slice none 0 0, .slice none 0 0] 63)) (rowIs_below xB2.out ua0.out xB2.out.lt).lt)
               clear ry0 by_ by0
               have tk1 : True := trivial)
            | (clear tk0
               go_at_call 17
               have kb := bx_below w2z.drew (.cells #[.slice none 0 0, .slice none 0 0] 63)
               refine (toBlk_g A0 n0 c0 l0 _ ((show BlksAt w2z.drew w2z.drew.heap.size A0 n0 l0 from ⟨(ha0.out.up u.out).1, (ha0.out.up u.out).2⟩).up kb) hm0).mono ?_
               rintro e wy0 ⟨gy0, rfl, ry0, by0, dy0, fy0⟩
               have zb := Lib.hid (show wy0.rowIs w2z.heap.size 63 2 (fn2 (.slice none 0 0) (.slice none 0 0)) from rowIs_below (bx_row2 w2z.drew (.slice none 0 0) (.slice none 0 0) 63) by0 (by simp))
               have lz := Lib.hid (show w2z.heap.size ≤ w2z.heap.size from Nat.le_refl _)
               have by_ := kb.trans (by0.mono kb.size)
               have y0 := Lib.hid ry0
               have ua0 := Lib.hid (show Below w2z.heap.size w2z wy0 from ⟨by_.os, by_.tape, by_.output, by_.size, by_.block⟩)
               have hd0_2_0 := row2_0 (rowIs_below xB2.out ua0.out xB2.out.lt)
               have hd0_2_1 := row2_1 (rowIs_below xB2.out ua0.out xB2.out.lt)
               clear ry0 by_ by0 kb
               have tk1 : True := trivial)
            | (clear tk1
               go_at_call 18
               refine (toInt_g A1 n1 c1 l1 _ (ha1.out.up' (u.out.trans (ua0.out.mono u.out.size))) hm1).mono ?_
               rintro e wy1 ⟨gy1, rfl, ry1, by0, dy1, fy1⟩
               have by_ := by0
               try replace zb := Lib.hid (rowIs_below zb.out by_ zb.out.lt)
               have y1 := Lib.hid ry1
               replace y0 := Lib.hid (rowIs_below y0.out by_ y0.out.lt)
               have ua1 := Lib.hid (ua0.out.trans (by_.mono ua0.out.size))
               have hd1_2_0 := row2_0 (rowIs_below xB2.out ua1.out xB2.out.lt)
               have hd1_2_1 := row2_1 (rowIs_below xB2.out ua1.out xB2.out.lt)
               have he1_2_0 := row2_0 (rowIs_below (rowIs_below xB2.out ua1.out xB2.out.lt) (bx_below wy1 (.cells #[.slice none 0 0, .slice none 0 0] 63)) (rowIs_below xB2.out ua1.out xB2.out.lt).lt)
               have he1_2_1 := row2_1 (rowIs_below (rowIs_below xB2.out ua1.out xB2.out.lt) (bx_below wy1 (.cells #[.slice none 0 0, .slice none 0 0] 63)) (rowIs_below xB2.out ua1.out xB2.out.lt).lt)
               clear ry1 by_ by0
               have tk2 : True := trivial)
            | (clear tk1
               go_at_call 18
               have kb := bx_below wy0 (.cells #[.slice none 0 0, .slice none 0 0] 63)
               refine (toInt_g A1 n1 c1 l1 _ (ha1.out.up' ((u.out.trans (ua0.out.mono u.out.size)).trans (kb.mono (u.out.trans (ua0.out.mono u.out.size)).size))) hm1).mono ?_
               rintro e wy1 ⟨gy1, rfl, ry1, by0, dy1, fy1⟩
               have zb := Lib.hid (show wy1.rowIs wy0.heap.size 63 2 (fn2 (.slice none 0 0) (.slice none 0 0)) from rowIs_below (bx_row2 wy0 (.slice none 0 0) (.slice none 0 0) 63) by0 (by simp))
               have lz := Lib.hid (show w2z.heap.size ≤ wy0.heap.size from ua0.out.size)
               have by_ := kb.trans (by0.mono kb.size)
               have y1 := Lib.hid ry1
               replace y0 := Lib.hid (rowIs_below y0.out by_ y0.out.lt)
               have ua1 := Lib.hid (ua0.out.trans (by_.mono ua0.out.size))
               have hd1_2_0 := row2_0 (rowIs_below xB2.out ua1.out xB2.out.lt)
               have hd1_2_1 := row2_1 (rowIs_below xB2.out ua1.out xB2.out.lt)
               clear ry1 by_ by0 kb
               have tk2 : True := trivial)
            | (clear tk2
               go_at_call 39
               refine (toView_g A2 n2 c2 l2 A3 n3 c3 l3 _ (ha2.out.up (u.out.trans (ua1.out.mono u.out.size))) (ha3.out.up (u.out.trans (ua1.out.mono u.out.size))) hm2 hm3).mono ?_
               rintro e wy2 ⟨gy2, gy3, rfl, ry2, ry3, by0, dy2, fy2, fy3⟩
               have by_ := by0
               try replace zb := Lib.hid (rowIs_below zb.out by_ zb.out.lt)
               have y2 := Lib.hid ry2
               have y3 := Lib.hid ry3
               replace y0 := Lib.hid (rowIs_below y0.out by_ y0.out.lt)
               replace y1 := Lib.hid (rowIs_below y1.out by_ y1.out.lt)
               have ua2 := Lib.hid (ua1.out.trans (by_.mono ua1.out.size))
               have hd2_2_0 := row2_0 (rowIs_below xB2.out ua2.out xB2.out.lt)
               have hd2_2_1 := row2_1 (rowIs_below xB2.out ua2.out xB2.out.lt)
               have he2_2_0 := row2_0 (rowIs_below (rowIs_below xB2.out ua2.out xB2.out.lt) (bx_below wy2 (.cells #[.slice none 0 0, .slice none 0 0] 63)) (rowIs_below xB2.out ua2.out xB2.out.lt).lt)
               have he2_2_1 := row2_1 (rowIs_below (rowIs_below xB2.out ua2.out xB2.out.lt) (bx_below wy2 (.cells #[.slice none 0 0, .slice none 0 0] 63)) (rowIs_below xB2.out ua2.out xB2.out.lt).lt)
               clear ry2 ry3 by_ by0
               have tk3 : True := trivial)
            | (clear tk2
               go_at_call 39
               have kb := bx_below wy1 (.cells #[.slice none 0 0, .slice none 0 0] 63)
               refine (toView_g A2 n2 c2 l2 A3 n3 c3 l3 _ (ha2.out.up ((u.out.trans (ua1.out.mono u.out.size)).trans (kb.mono (u.out.trans (ua1.out.mono u.out.size)).size))) (ha3.out.up ((u.out.trans (ua1.out.mono u.out.size)).trans (kb.mono (u.out.trans (ua1.out.mono u.out.size)).size))) hm2 hm3).mono ?_
               rintro e wy2 ⟨gy2, gy3, rfl, ry2, ry3, by0, dy2, fy2, fy3⟩
               have zb := Lib.hid (show wy2.rowIs wy1.heap.size 63 2 (fn2 (.slice none 0 0) (.slice none 0 0)) from rowIs_below (bx_row2 wy1 (.slice none 0 0) (.slice none 0 0) 63) by0 (by simp))
               have lz := Lib.hid (show w2z.heap.size ≤ wy1.heap.size from ua1.out.size)
               have by_ := kb.trans (by0.mono kb.size)
               have y2 := Lib.hid ry2
               have y3 := Lib.hid ry3
               replace y0 := Lib.hid (rowIs_below y0.out by_ y0.out.lt)
               replace y1 := Lib.hid (rowIs_below y1.out by_ y1.out.lt)
               have ua2 := Lib.hid (ua1.out.trans (by_.mono ua1.out.size))
               have hd2_2_0 := row2_0 (rowIs_below xB2.out ua2.out xB2.out.lt)
               have hd2_2_1 := row2_1 (rowIs_below xB2.out ua2.out xB2.out.lt)
               clear ry2 ry3 by_ by0 kb
               have tk3 : True := trivial)
            | (clear tk3
               go_at_call 46
               refine (specFreezeView_any _ n0 _ l0 _ n1 _ l1 _ n2 _ l2 _ n3 _ l3 _ (row_blks' le0.out y0.out) (row_ints le1.out y1.out) (row_votesB le2.out y2.out) (row_votesB le3.out y3.out) hm0 hm1 hm2 hm3 (Nat.le_refl _) (fun e => by cases e) (Nat.le_refl _) (fun e => by cases e)).mono ?_
               rintro e we ⟨AX, nX, cX, AY, nY, cY, rfl, oe, oe2, hap, be⟩
               try have gz := Lib.hid zb.out.lt
               try replace zb := Lib.hid (rowIs_below zb.out be zb.out.lt)
               have hB := Lib.hid ua2.out.size
               try have hzb0 := row2_0 (zb.out)
               try have hzf0 := zb.out.frozen 0
               try have hzb1 := row2_1 (zb.out)
               try have hzf1 := zb.out.frozen 1
               have ye := Lib.hid oe
               have ye2 := Lib.hid oe2
               have yap := Lib.hid hap
               have ue := Lib.hid (ua2.out.trans (be.mono ua2.out.size))
               have hw_2_0 := row2_0 (rowIs_below xB2.out ue.out xB2.out.lt)
               have hw_2_1 := row2_1 (rowIs_below xB2.out ue.out xB2.out.lt)
               have hv_2_0 := row2_0 (rowIs_below (rowIs_below xB2.out ue.out xB2.out.lt) (bx_below we (.cells #[.slice AX nX cX, .slice AY nY cY] 63)) (rowIs_below xB2.out ue.out xB2.out.lt).lt)
               have hv_2_1 := row2_1 (rowIs_below (rowIs_below xB2.out ue.out xB2.out.lt) (bx_below we (.cells #[.slice AX nX cX, .slice AY nY cY] 63)) (rowIs_below xB2.out ue.out xB2.out.lt).lt)
               have hu_2_0 := row2_0 (rowIs_below (rowIs_below xB2.out ue.out xB2.out.lt) (bx_below we (.cells #[.slice none 0 0, .slice none 0 0] 63)) (rowIs_below xB2.out ue.out xB2.out.lt).lt)
               have hu_2_1 := row2_1 (rowIs_below (rowIs_below xB2.out ue.out xB2.out.lt) (bx_below we (.cells #[.slice none 0 0, .slice none 0 0] 63)) (rowIs_below xB2.out ue.out xB2.out.lt).lt)
               try have hs_2_0 := row2_0 (keep_set2 zb.out (rowIs_below xB2.out ue.out xB2.out.lt) (Nat.lt_of_lt_of_le xB2.out.lt lz.out) (.slice AX nX cX) (.slice AY nY cY))
               try have hs_2_1 := row2_1 (keep_set2 zb.out (rowIs_below xB2.out ue.out xB2.out.lt) (Nat.lt_of_lt_of_le xB2.out.lt lz.out) (.slice AX nX cX) (.slice AY nY cY))
               clear be oe oe2 hap)
            | (clear tk3
               go_at_call 46
               have kb := bx_below wy2 (.cells #[.slice none 0 0, .slice none 0 0] 63)
               refine (specFreezeView_any _ n0 _ l0 _ n1 _ l1 _ n2 _ l2 _ n3 _ l3 _ (row_blks' le0.out (rowIs_below y0.out kb y0.out.lt)) (row_ints le1.out (rowIs_below y1.out kb y1.out.lt)) (row_votesB le2.out (rowIs_below y2.out kb y2.out.lt)) (row_votesB le3.out (rowIs_below y3.out kb y3.out.lt)) hm0 hm1 hm2 hm3 (Nat.le_refl _) (fun e => by cases e) (Nat.le_refl _) (fun e => by cases e)).mono ?_
               rintro e we ⟨AX, nX, cX, AY, nY, cY, rfl, oe, oe2, hap, be⟩
               have zb := Lib.hid (rowIs_below (bx_row2 wy2 (.slice none 0 0) (.slice none 0 0) 63) be (by simp))
               have lz := Lib.hid (show w2z.heap.size ≤ wy2.heap.size from ua2.out.size)
               have gz := Lib.hid (show wy2.heap.size < (wy2.alloc (.cells #[.slice none 0 0, .slice none 0 0] 63)).heap.size by simp)
               have hB := Lib.hid (Nat.le_trans ua2.out.size kb.size)
               have hzb0 := row2_0 (zb.out)
               have hzf0 := zb.out.frozen 0
               have hzb1 := row2_1 (zb.out)
               have hzf1 := zb.out.frozen 1
               have ye := Lib.hid oe
               have ye2 := Lib.hid oe2
               have yap := Lib.hid hap
               have ue := Lib.hid (ua2.out.trans ((kb.trans (be.mono kb.size)).mono ua2.out.size))
               have hw_2_0 := row2_0 (rowIs_below xB2.out ue.out xB2.out.lt)
               have hw_2_1 := row2_1 (rowIs_below xB2.out ue.out xB2.out.lt)
               have hv_2_0 := row2_0 (rowIs_below (rowIs_below xB2.out ue.out xB2.out.lt) (bx_below we (.cells #[.slice AX nX cX, .slice AY nY cY] 63)) (rowIs_below xB2.out ue.out xB2.out.lt).lt)
               have hv_2_1 := row2_1 (rowIs_below (rowIs_below xB2.out ue.out xB2.out.lt) (bx_below we (.cells #[.slice AX nX cX, .slice AY nY cY] 63)) (rowIs_below xB2.out ue.out xB2.out.lt).lt)
               have hu_2_0 := row2_0 (rowIs_below (rowIs_below xB2.out ue.out xB2.out.lt) (bx_below we (.cells #[.slice none 0 0, .slice none 0 0] 63)) (rowIs_below xB2.out ue.out xB2.out.lt).lt)
               have hu_2_1 := row2_1 (rowIs_below (rowIs_below xB2.out ue.out xB2.out.lt) (bx_below we (.cells #[.slice none 0 0, .slice none 0 0] 63)) (rowIs_below xB2.out ue.out xB2.out.lt).lt)
               have hs_2_0 := row2_0 (keep_set2 zb.out (rowIs_below xB2.out ue.out xB2.out.lt) (Nat.lt_of_lt_of_le xB2.out.lt lz.out) (.slice AX nX cX) (.slice AY nY cY))
               have hs_2_1 := row2_1 (keep_set2 zb.out (rowIs_below xB2.out ue.out xB2.out.lt) (Nat.lt_of_lt_of_le xB2.out.lt lz.out) (.slice AX nX cX) (.slice AY nY cY))
               clear be oe oe2 hap kb))
          all_goals
            go_wp2_with fail
            go_meet
            case rel => first
              | exact ⟨_, _, _, _, _, _, _, rfl, rfl, Lib.hid ((ye.out.below (bx_below we _)).fewer hB.out), Lib.hid ((ye2.out.below (bx_below we _)).fewer hB.out), yap, Lib.hid (bx_row2 we _ _ _), Lib.hid ue.out.size, Lib.hid (ue.out.trans ((bx_below we _).mono ue.out.size))⟩
              | exact ⟨_, _, _, _, _, _, _, rfl, rfl, Lib.hid ((ye.out.setBox2 gz.out _ _).fewer hB.out), Lib.hid ((ye2.out.setBox2 gz.out _ _).fewer hB.out), yap, Lib.hid (row2_set zb.out _ _), Lib.hid lz.out, Lib.hid ((ue.out.setCell (p := ⟨_, 0, none⟩) lz.out _).setCell (p := ⟨_, 1, none⟩) lz.out _)⟩
        case rest =>
          obtain ⟨AM, nM, cM, AN, nN, cN, gMB, rfl, rfl, yAM, yAN, apAM, xgMB, lgMB, k5⟩ := hcut
          skip
          have k6 := k5.out
          clear k5
          clear hcB2_0 hcB2_1
          have hnM : nM ≤ 100 := by rw [← yAM.out.len]; exact hlen0.out
          have lo_yAM := Lib.hid (fun ad (e : AM = some ad) => Nat.le_trans sz.out (yAM.out.low ad e).1)
          have hi_yAM := Lib.hid (fun ad (e : AM = some ad) => (yAM.out.low ad e).2)
          have hnN : nN ≤ 100 := by rw [← yAN.out.len]; exact hlen1.out
          have lo_yAN := Lib.hid (fun ad (e : AN = some ad) => Nat.le_trans sz.out (yAN.out.low ad e).1)
          have hi_yAN := Lib.hid (fun ad (e : AN = some ad) => (yAN.out.low ad e).2)
          have mo_yAM := Lib.hid (Nat.le_trans sz.out k6.size)
          have lo_xgMB := Lib.hid (Nat.le_trans sz.out lgMB.out)
          have hi_xgMB := Lib.hid xgMB.out.lt
          replace u := Lib.hid (u.out.trans (k6.mono u.out.size))
          replace sz := Lib.hid (Nat.le_trans sz.out k6.size)
          replace xB2 := Lib.hid (rowIs_below xB2.out k6 xB2.out.lt)
          clear k6
          clear sz
          have sz := Lib.hid (Nat.le_refl wc.heap.size)
          go_wp2_with fail
          refine (toBlk_g A0 n0 c0 l0 _ (ha0.out.up u.out) hm0).mono ?_
          rintro e w6 ⟨g0, rfl, r0, b6, d0, f0⟩
          have x0 := Lib.hid r0; clear r0
          have lo_x0 := Lib.hid (Nat.le_trans sz.out d0); have hi_x0 := Lib.hid f0; clear d0 f0
          replace u := Lib.hid (u.out.trans (b6.mono u.out.size))
          replace sz := Lib.hid (Nat.le_trans sz.out b6.size)
          replace xB2 := Lib.hid (rowIs_below xB2.out b6 xB2.out.lt)
          replace yAM := Lib.hid (yAM.out.below b6)
          replace yAN := Lib.hid (yAN.out.below b6)
          replace xgMB := Lib.hid (rowIs_below xgMB.out b6 xgMB.out.lt)
          clear b6
          clear sz
          have sz := Lib.hid (Nat.le_refl w6.heap.size)
          go_wp2_with fail
          refine (toInt_g A1 n1 c1 l1 _ (ha1.out.up' u.out) hm1).mono ?_
          rintro e w7 ⟨g1, rfl, r1, b7, d1, f1⟩
          have x1 := Lib.hid r1; clear r1
          have lo_x1 := Lib.hid (Nat.le_trans sz.out d1); have hi_x1 := Lib.hid f1; clear d1 f1
          replace u := Lib.hid (u.out.trans (b7.mono u.out.size))
          replace sz := Lib.hid (Nat.le_trans sz.out b7.size)
          replace xB2 := Lib.hid (rowIs_below xB2.out b7 xB2.out.lt)
          replace yAM := Lib.hid (yAM.out.below b7)
          replace yAN := Lib.hid (yAN.out.below b7)
          replace xgMB := Lib.hid (rowIs_below xgMB.out b7 xgMB.out.lt)
          replace x0 := Lib.hid (rowIs_below x0.out b7 x0.out.lt)
          clear b7
          clear sz
          have sz := Lib.hid (Nat.le_refl w7.heap.size)
          have hcB2_0 := row2_0 (xB2.out)
          have hcB2_1 := row2_1 (xB2.out)
          go_wp2_with fail
          refine (toView_g A2 n2 c2 l2 A3 n3 c3 l3 _ (ha2.out.up u.out) (ha3.out.up u.out) hm2 hm3).mono ?_
          rintro e w8 ⟨g2, g3, rfl, r2, r3, b8, d2, f2, f3⟩
          clear hcB2_0 hcB2_1
          have x2 := Lib.hid r2; clear r2
          have x3 := Lib.hid r3; clear r3
          have lo_x2 := Lib.hid (Nat.le_trans sz.out d2); have hi_x2 := Lib.hid (Nat.lt_succ_self g2)
          have lo_x3 := Lib.hid (Nat.succ_le_of_lt f2); have hi_x3 := Lib.hid f3; clear d2 f2 f3
          replace u := Lib.hid (u.out.trans (b8.mono u.out.size))
          replace sz := Lib.hid (Nat.le_trans sz.out b8.size)
          replace xB2 := Lib.hid (rowIs_below xB2.out b8 xB2.out.lt)
          replace yAM := Lib.hid (yAM.out.below b8)
          replace yAN := Lib.hid (yAN.out.below b8)
          replace xgMB := Lib.hid (rowIs_below xgMB.out b8 xgMB.out.lt)
          replace x0 := Lib.hid (rowIs_below x0.out b8 x0.out.lt)
          replace x1 := Lib.hid (rowIs_below x1.out b8 x1.out.lt)
          clear b8
          clear sz
          have sz := Lib.hid (Nat.le_refl w8.heap.size)
          have xb2 := Lib.hid (bx_row2 w8 (.slice (some ⟨g2, 0, none⟩) n2 n2) (.slice (some ⟨g3, 0, none⟩) n3 n3) 63)
          have kk : Below w8.heap.size w8 (w8.alloc (.cells #[.slice (some ⟨g2, 0, none⟩) n2 n2, .slice (some ⟨g3, 0, none⟩) n3 n3] 63)) := bx_below w8 _
          have lo_xb2 := Lib.hid (Nat.le_refl w8.heap.size); have hi_xb2 := Lib.hid (Nat.lt_succ_self w8.heap.size)
          replace u := Lib.hid (u.out.trans (kk.mono u.out.size))
          replace sz := Lib.hid (Nat.le_trans sz.out kk.size)
          replace xB2 := Lib.hid (rowIs_below xB2.out kk xB2.out.lt)
          replace yAM := Lib.hid (yAM.out.below kk)
          replace yAN := Lib.hid (yAN.out.below kk)
          replace xgMB := Lib.hid (rowIs_below xgMB.out kk xgMB.out.lt)
          replace x0 := Lib.hid (rowIs_below x0.out kk x0.out.lt)
          replace x1 := Lib.hid (rowIs_below x1.out kk x1.out.lt)
          replace x2 := Lib.hid (rowIs_below x2.out kk x2.out.lt)
          replace x3 := Lib.hid (rowIs_below x3.out kk x3.out.lt)
          clear kk
          clear sz
          have sz := Lib.hid (show w8.heap.size + 1 ≤ (w8.alloc (.cells #[.slice (some ⟨g2, 0, none⟩) n2 n2, .slice (some ⟨g3, 0, none⟩) n3 n3] 63)).heap.size by simp)
          have hcX2_0 := row2_0 (xb2.out)
          have hcX2_1 := row2_1 (xb2.out)
          go_wp2_with fail
          refine (implFreezeView_any _ n0 _ l0 _ n1 _ l1 _ n2 _ l2 _ n3 _ l3 _ (row_blks' le0.out x0.out) (row_ints le1.out x1.out) (row_votesB le2.out x2.out) (row_votesB le3.out x3.out) hm0 hm1 hm2 hm3 (Nat.le_refl _) (fun e => by cases e) (Nat.le_refl _) (fun e => by cases e)).mono ?_
          rintro e w9 ⟨AP, nP, cP, AQ, nQ, cQ, rfl, oAP, oAQ, hapP, b9⟩
          have hnP : nP ≤ 100 := by rw [← oAP.len]; exact hlen0.out
          have lo_yAP := Lib.hid (fun ad (e : AP = some ad) => Nat.le_trans sz.out (oAP.low ad e).1)
          have hi_yAP := Lib.hid (fun ad (e : AP = some ad) => (oAP.low ad e).2)
          have hnQ : nQ ≤ 100 := by rw [← oAQ.len]; exact hlen1.out
          have lo_yAQ := Lib.hid (fun ad (e : AQ = some ad) => Nat.le_trans sz.out (oAQ.low ad e).1)
          have hi_yAQ := Lib.hid (fun ad (e : AQ = some ad) => (oAQ.low ad e).2)
          have mo_yAP := Lib.hid (Nat.le_trans sz.out b9.size)
          have yAP := Lib.hid oAP; clear oAP
          have yAQ := Lib.hid oAQ; clear oAQ
          have apP := Lib.hid hapP; clear hapP
          clear hcX2_0 hcX2_1
          replace u := Lib.hid (u.out.trans (b9.mono u.out.size))
          replace sz := Lib.hid (Nat.le_trans sz.out b9.size)
          replace xB2 := Lib.hid (rowIs_below xB2.out b9 xB2.out.lt)
          replace yAM := Lib.hid (yAM.out.below b9)
          replace yAN := Lib.hid (yAN.out.below b9)
          replace xgMB := Lib.hid (rowIs_below xgMB.out b9 xgMB.out.lt)
          replace x0 := Lib.hid (rowIs_below x0.out b9 x0.out.lt)
          replace x1 := Lib.hid (rowIs_below x1.out b9 x1.out.lt)
          replace x2 := Lib.hid (rowIs_below x2.out b9 x2.out.lt)
          replace x3 := Lib.hid (rowIs_below x3.out b9 x3.out.lt)
          replace xb2 := Lib.hid (rowIs_below xb2.out b9 xb2.out.lt)
          clear b9
          clear sz
          have sz := Lib.hid (Nat.le_refl w9.heap.size)
          have xgPB := Lib.hid (bx_row2 w9 (.slice AP nP cP) (.slice AQ nQ cQ) 63)
          have kk : Below w9.heap.size w9 (w9.alloc (.cells #[.slice AP nP cP, .slice AQ nQ cQ] 63)) := bx_below w9 _
          have lo_xgPB := Lib.hid (Nat.le_refl w9.heap.size); have hi_xgPB := Lib.hid (Nat.lt_succ_self w9.heap.size)
          replace u := Lib.hid (u.out.trans (kk.mono u.out.size))
          replace sz := Lib.hid (Nat.le_trans sz.out kk.size)
          replace xB2 := Lib.hid (rowIs_below xB2.out kk xB2.out.lt)
          replace yAM := Lib.hid (yAM.out.below kk)
          replace yAN := Lib.hid (yAN.out.below kk)
          replace xgMB := Lib.hid (rowIs_below xgMB.out kk xgMB.out.lt)
          replace x0 := Lib.hid (rowIs_below x0.out kk x0.out.lt)
          replace x1 := Lib.hid (rowIs_below x1.out kk x1.out.lt)
          replace x2 := Lib.hid (rowIs_below x2.out kk x2.out.lt)
          replace x3 := Lib.hid (rowIs_below x3.out kk x3.out.lt)
          replace xb2 := Lib.hid (rowIs_below xb2.out kk xb2.out.lt)
          replace yAP := Lib.hid (yAP.out.below kk)
          replace yAQ := Lib.hid (yAQ.out.below kk)
          clear kk
          clear sz
          have sz := Lib.hid (show w9.heap.size + 1 ≤ (w9.alloc (.cells #[.slice AP nP cP, .slice AQ nQ cQ] 63)).heap.size by simp)
          have hrgPB_0 := row2_0 (xgPB.out)
          have hrgPB_1 := row2_1 (xgPB.out)
          have hrgMB_0 := row2_0 (xgMB.out)
          have hrgMB_1 := row2_1 (xgMB.out)
          go_wp2_with fail
          refine (eqView_b AP AM nP nM cP cM _ AQ AN nQ nN cQ cN _ _ yAP.out.votes yAM.out.votes yAQ.out.votes yAN.out.votes (by omega) (by omega) (by omega) (by omega)).mono ?_
          rintro e w10 ⟨rfl, b10⟩
          clear hrgPB_0 hrgPB_1 hrgMB_0 hrgMB_1
          replace u := Lib.hid (u.out.trans (b10.mono u.out.size))
          replace sz := Lib.hid (Nat.le_trans sz.out b10.size)
          replace xB2 := Lib.hid (rowIs_below xB2.out b10 xB2.out.lt)
          replace yAM := Lib.hid (yAM.out.below b10)
          replace yAN := Lib.hid (yAN.out.below b10)
          replace xgMB := Lib.hid (rowIs_below xgMB.out b10 xgMB.out.lt)
          replace x0 := Lib.hid (rowIs_below x0.out b10 x0.out.lt)
          replace x1 := Lib.hid (rowIs_below x1.out b10 x1.out.lt)
          replace x2 := Lib.hid (rowIs_below x2.out b10 x2.out.lt)
          replace x3 := Lib.hid (rowIs_below x3.out b10 x3.out.lt)
          replace xb2 := Lib.hid (rowIs_below xb2.out b10 xb2.out.lt)
          replace yAP := Lib.hid (yAP.out.below b10)
          replace yAQ := Lib.hid (yAQ.out.below b10)
          replace xgPB := Lib.hid (rowIs_below xgPB.out b10 xgPB.out.lt)
          clear b10
          go_wp2_with fail
          refine (toBlk_g A0 n0 c0 l0 _ (ha0.out.up u.out) hm0).mono ?_
          rintro e w11 ⟨gZ, rfl, rZ, b11, _, _⟩
          have xZ := Lib.hid rZ; clear rZ
          replace u := Lib.hid (u.out.trans (b11.mono u.out.size))
          replace sz := Lib.hid (Nat.le_trans sz.out b11.size)
          replace xB2 := Lib.hid (rowIs_below xB2.out b11 xB2.out.lt)
          replace yAM := Lib.hid (yAM.out.below b11)
          replace yAN := Lib.hid (yAN.out.below b11)
          replace xgMB := Lib.hid (rowIs_below xgMB.out b11 xgMB.out.lt)
          replace x0 := Lib.hid (rowIs_below x0.out b11 x0.out.lt)
          replace x1 := Lib.hid (rowIs_below x1.out b11 x1.out.lt)
          replace x2 := Lib.hid (rowIs_below x2.out b11 x2.out.lt)
          replace x3 := Lib.hid (rowIs_below x3.out b11 x3.out.lt)
          replace xb2 := Lib.hid (rowIs_below xb2.out b11 xb2.out.lt)
          replace yAP := Lib.hid (yAP.out.below b11)
          replace yAQ := Lib.hid (yAQ.out.below b11)
          replace xgPB := Lib.hid (rowIs_below xgPB.out b11 xgPB.out.lt)
          clear b11
          go_wp2_with fail
          refine (eqBlk_b _ _ n0 n0 _ _ l0 _ (row_blks' le0.out x0.out) (row_blks' le0.out xZ.out) hm0 hm0).mono ?_
          rintro e w12 ⟨rfl, b12⟩
          replace u := Lib.hid (u.out.trans (b12.mono u.out.size))
          replace sz := Lib.hid (Nat.le_trans sz.out b12.size)
          replace xB2 := Lib.hid (rowIs_below xB2.out b12 xB2.out.lt)
          replace yAM := Lib.hid (yAM.out.below b12)
          replace yAN := Lib.hid (yAN.out.below b12)
          replace xgMB := Lib.hid (rowIs_below xgMB.out b12 xgMB.out.lt)
          replace x0 := Lib.hid (rowIs_below x0.out b12 x0.out.lt)
          replace x1 := Lib.hid (rowIs_below x1.out b12 x1.out.lt)
          replace x2 := Lib.hid (rowIs_below x2.out b12 x2.out.lt)
          replace x3 := Lib.hid (rowIs_below x3.out b12 x3.out.lt)
          replace xb2 := Lib.hid (rowIs_below xb2.out b12 xb2.out.lt)
          replace yAP := Lib.hid (yAP.out.below b12)
          replace yAQ := Lib.hid (yAQ.out.below b12)
          replace xgPB := Lib.hid (rowIs_below xgPB.out b12 xgPB.out.lt)
          replace xZ := Lib.hid (rowIs_below xZ.out b12 xZ.out.lt)
          clear b12
          clear xZ
          go_wp2_with fail
          refine (toInt_g A1 n1 c1 l1 _ (ha1.out.up' u.out) hm1).mono ?_
          rintro e w13 ⟨gZ, rfl, rZ, b13, _, _⟩
          have xZ := Lib.hid rZ; clear rZ
          replace u := Lib.hid (u.out.trans (b13.mono u.out.size))
          replace sz := Lib.hid (Nat.le_trans sz.out b13.size)
          replace xB2 := Lib.hid (rowIs_below xB2.out b13 xB2.out.lt)
          replace yAM := Lib.hid (yAM.out.below b13)
          replace yAN := Lib.hid (yAN.out.below b13)
          replace xgMB := Lib.hid (rowIs_below xgMB.out b13 xgMB.out.lt)
          replace x0 := Lib.hid (rowIs_below x0.out b13 x0.out.lt)
          replace x1 := Lib.hid (rowIs_below x1.out b13 x1.out.lt)
          replace x2 := Lib.hid (rowIs_below x2.out b13 x2.out.lt)
          replace x3 := Lib.hid (rowIs_below x3.out b13 x3.out.lt)
          replace xb2 := Lib.hid (rowIs_below xb2.out b13 xb2.out.lt)
          replace yAP := Lib.hid (yAP.out.below b13)
          replace yAQ := Lib.hid (yAQ.out.below b13)
          replace xgPB := Lib.hid (rowIs_below xgPB.out b13 xgPB.out.lt)
          clear b13
          go_wp2_with fail
          refine (eqInt_b _ _ n1 n1 _ _ l1 _ (row_ints le1.out x1.out) (row_ints le1.out xZ.out) hm1 hm1).mono ?_
          rintro e w14 ⟨rfl, b14⟩
          replace u := Lib.hid (u.out.trans (b14.mono u.out.size))
          replace sz := Lib.hid (Nat.le_trans sz.out b14.size)
          replace xB2 := Lib.hid (rowIs_below xB2.out b14 xB2.out.lt)
          replace yAM := Lib.hid (yAM.out.below b14)
          replace yAN := Lib.hid (yAN.out.below b14)
          replace xgMB := Lib.hid (rowIs_below xgMB.out b14 xgMB.out.lt)
          replace x0 := Lib.hid (rowIs_below x0.out b14 x0.out.lt)
          replace x1 := Lib.hid (rowIs_below x1.out b14 x1.out.lt)
          replace x2 := Lib.hid (rowIs_below x2.out b14 x2.out.lt)
          replace x3 := Lib.hid (rowIs_below x3.out b14 x3.out.lt)
          replace xb2 := Lib.hid (rowIs_below xb2.out b14 xb2.out.lt)
          replace yAP := Lib.hid (yAP.out.below b14)
          replace yAQ := Lib.hid (yAQ.out.below b14)
          replace xgPB := Lib.hid (rowIs_below xgPB.out b14 xgPB.out.lt)
          replace xZ := Lib.hid (rowIs_below xZ.out b14 xZ.out.lt)
          clear b14
          clear xZ
          have hcB2_0 := row2_0 (xB2.out)
          have hcB2_1 := row2_1 (xB2.out)
          have hcX2_0 := row2_0 (xb2.out)
          have hcX2_1 := row2_1 (xb2.out)
          have hT2 := Lib.hid (toView_g A2 n2 c2 l2 A3 n3 c3 l3 w14.drew (show VotesAt w14.drew w14.drew.heap.size A2 n2 l2 from ⟨(ha2.out.up u.out).1, (ha2.out.up u.out).2⟩) (show VotesAt w14.drew w14.drew.heap.size A3 n3 l3 from ⟨(ha3.out.up u.out).1, (ha3.out.up u.out).2⟩) hm2 hm3)
          go_upto_region 21 with fail
          go_cut [79] from 75 to 79 (fun s wx => s = .bool false ∧ Hid (Below w14.heap.size w14 wx))
          case first =>
            go_region_with (first
              | (go_at_call 39
                 refine hT2.out.mono ?_
                 rintro e wa ⟨ga2, ga3, rfl, ra2, ra3, ba, da2, fa2, fa3⟩
                 have xa2 := Lib.hid ra2
                 have xa3 := Lib.hid ra3
                 have ua := Lib.hid (show Below w14.heap.size w14 wa from ⟨ba.os, ba.tape, ba.output, ba.size, ba.block⟩)
                 have hd1_0 := row2_0 (rowIs_below xB2.out ua.out xB2.out.lt)
                 have hd1_1 := row2_1 (rowIs_below xB2.out ua.out xB2.out.lt)
                 have hd2_0 := row2_0 (rowIs_below xb2.out ua.out xb2.out.lt)
                 have hd2_1 := row2_1 (rowIs_below xb2.out ua.out xb2.out.lt)
                 have xR2 := Lib.hid (rowIs_below x2.out ua.out x2.out.lt)
                 have xR3 := Lib.hid (rowIs_below x3.out ua.out x3.out.lt)
                 clear ba ra2 ra3)
              | (go_at_call 41
                 refine (eqView_b _ _ n2 n2 n2 n2 l2 _ _ n3 n3 n3 n3 l3 _ (row_votesB le2.out xR2.out) (row_votesB le2.out xa2.out) (row_votesB le3.out xR3.out) (row_votesB le3.out xa3.out) hm2 hm2 hm3 hm3).mono ?_
                 rintro e wb ⟨rfl, bb⟩
                 have ub := Lib.hid (ua.out.trans (bb.mono ua.out.size))
                 clear bb))
            all_goals
              go_wp2_with fail
              go_meet
              case rel => exact ⟨rfl, ub⟩
          case rest =>
            obtain ⟨rfl, k6⟩ := hcut
            have k7 := k6.out
            clear k6 hT2 hcB2_0 hcB2_1 hcX2_0 hcX2_1
            replace u := Lib.hid (u.out.trans (k7.mono u.out.size))
            replace sz := Lib.hid (Nat.le_trans sz.out k7.size)
            replace xB2 := Lib.hid (rowIs_below xB2.out k7 xB2.out.lt)
            replace yAM := Lib.hid (yAM.out.below k7)
            replace yAN := Lib.hid (yAN.out.below k7)
            replace xgMB := Lib.hid (rowIs_below xgMB.out k7 xgMB.out.lt)
            replace x0 := Lib.hid (rowIs_below x0.out k7 x0.out.lt)
            replace x1 := Lib.hid (rowIs_below x1.out k7 x1.out.lt)
            replace x2 := Lib.hid (rowIs_below x2.out k7 x2.out.lt)
            replace x3 := Lib.hid (rowIs_below x3.out k7 x3.out.lt)
            replace xb2 := Lib.hid (rowIs_below xb2.out k7 xb2.out.lt)
            replace yAP := Lib.hid (yAP.out.below k7)
            replace yAQ := Lib.hid (yAQ.out.below k7)
            replace xgPB := Lib.hid (rowIs_below xgPB.out k7 xgPB.out.lt)
            clear k7
            go_wp2_with fail
            refine (markBlk_b g0 n0 _ _ (1) _ x0.out hm0 (by omega) (by omega)).mono ?_
            rintro e w15 ⟨rfl, oo⟩
            have ok_ := oo.o
            clear oo
            replace u := Lib.hid (u.out.trans (ok_.below u.out.size (fun ad e => by cases e; have := lo_x0.out; have := hi_x0.out; have := lo_xB2.out; have := hi_xB2.out; have := mo_yAM.out; show w.heap.size ≤ g0; omega)))
            replace sz := Lib.hid (Nat.le_trans sz.out ok_.size)
            replace xB2 := Lib.hid (rowIs_o xB2.out ok_ (fun ad e => by cases e; have := lo_x0.out; have := hi_x0.out; have := lo_xB2.out; have := hi_xB2.out; have := mo_yAM.out; show w.heap.size ≠ g0; omega))
            replace yAM := Lib.hid (OwnV.o yAM.out ok_ (fun ad ad' e e' => by cases e'; have := lo_x0.out; have := hi_x0.out; have := lo_yAM.out ad e; have := hi_yAM.out ad e; show ad.block ≠ g0; omega))
            replace yAN := Lib.hid (OwnV.o yAN.out ok_ (fun ad ad' e e' => by cases e'; have := lo_x0.out; have := hi_x0.out; have := lo_yAN.out ad e; have := hi_yAN.out ad e; show ad.block ≠ g0; omega))
            replace xgMB := Lib.hid (rowIs_o xgMB.out ok_ (fun ad e => by cases e; have := lo_x0.out; have := hi_x0.out; have := lo_xgMB.out; have := hi_xgMB.out; show gMB ≠ g0; omega))
            replace x1 := Lib.hid (rowIs_o x1.out ok_ (fun ad e => by cases e; have := lo_x0.out; have := hi_x0.out; have := lo_x1.out; have := hi_x1.out; show g1 ≠ g0; omega))
            replace x2 := Lib.hid (rowIs_o x2.out ok_ (fun ad e => by cases e; have := lo_x0.out; have := hi_x0.out; have := lo_x2.out; have := hi_x2.out; have := lo_x1.out; have := hi_x1.out; show g2 ≠ g0; omega))
            replace x3 := Lib.hid (rowIs_o x3.out ok_ (fun ad e => by cases e; have := lo_x0.out; have := hi_x0.out; have := lo_x3.out; have := hi_x3.out; have := lo_x1.out; have := hi_x1.out; have := lo_x2.out; have := hi_x2.out; show g3 ≠ g0; omega))
            replace xb2 := Lib.hid (rowIs_o xb2.out ok_ (fun ad e => by cases e; have := lo_x0.out; have := hi_x0.out; have := lo_xb2.out; have := hi_xb2.out; have := lo_x1.out; have := hi_x1.out; have := lo_x2.out; have := hi_x2.out; have := lo_x3.out; have := hi_x3.out; show w8.heap.size ≠ g0; omega))
            replace yAP := Lib.hid (OwnV.o yAP.out ok_ (fun ad ad' e e' => by cases e'; have := lo_x0.out; have := hi_x0.out; have := lo_yAP.out ad e; have := hi_yAP.out ad e; have := lo_x1.out; have := hi_x1.out; have := lo_x2.out; have := hi_x2.out; have := lo_x3.out; have := hi_x3.out; have := lo_xb2.out; have := hi_xb2.out; show ad.block ≠ g0; omega))
            replace yAQ := Lib.hid (OwnV.o yAQ.out ok_ (fun ad ad' e e' => by cases e'; have := lo_x0.out; have := hi_x0.out; have := lo_yAQ.out ad e; have := hi_yAQ.out ad e; have := lo_x1.out; have := hi_x1.out; have := lo_x2.out; have := hi_x2.out; have := lo_x3.out; have := hi_x3.out; have := lo_xb2.out; have := hi_xb2.out; show ad.block ≠ g0; omega))
            replace xgPB := Lib.hid (rowIs_o xgPB.out ok_ (fun ad e => by cases e; have := lo_x0.out; have := hi_x0.out; have := lo_xgPB.out; have := hi_xgPB.out; have := lo_x1.out; have := hi_x1.out; have := lo_x2.out; have := hi_x2.out; have := lo_x3.out; have := hi_x3.out; have := lo_xb2.out; have := hi_xb2.out; have := mo_yAP.out; show w9.heap.size ≠ g0; omega))
            clear ok_ x0
            go_wp2_with fail
            refine (markInt_b g1 n1 _ l1 (1 + (n0 : Int) * 2) _ le1.out x1.out hm1 (by omega) (by omega)).mono ?_
            rintro e w16 ⟨rfl, oo⟩
            have ok_ := oo.o
            clear oo
            replace u := Lib.hid (u.out.trans (ok_.below u.out.size (fun ad e => by cases e; have := lo_x1.out; have := hi_x1.out; have := lo_xB2.out; have := hi_xB2.out; have := mo_yAM.out; have := lo_x0.out; have := hi_x0.out; show w.heap.size ≤ g1; omega)))
            replace sz := Lib.hid (Nat.le_trans sz.out ok_.size)
            replace xB2 := Lib.hid (rowIs_o xB2.out ok_ (fun ad e => by cases e; have := lo_x1.out; have := hi_x1.out; have := lo_xB2.out; have := hi_xB2.out; have := mo_yAM.out; have := lo_x0.out; have := hi_x0.out; show w.heap.size ≠ g1; omega))
            replace yAM := Lib.hid (OwnV.o yAM.out ok_ (fun ad ad' e e' => by cases e'; have := lo_x1.out; have := hi_x1.out; have := lo_yAM.out ad e; have := hi_yAM.out ad e; have := lo_x0.out; have := hi_x0.out; show ad.block ≠ g1; omega))
            replace yAN := Lib.hid (OwnV.o yAN.out ok_ (fun ad ad' e e' => by cases e'; have := lo_x1.out; have := hi_x1.out; have := lo_yAN.out ad e; have := hi_yAN.out ad e; have := lo_x0.out; have := hi_x0.out; show ad.block ≠ g1; omega))
            replace xgMB := Lib.hid (rowIs_o xgMB.out ok_ (fun ad e => by cases e; have := lo_x1.out; have := hi_x1.out; have := lo_xgMB.out; have := hi_xgMB.out; have := lo_x0.out; have := hi_x0.out; show gMB ≠ g1; omega))
            replace x2 := Lib.hid (rowIs_o x2.out ok_ (fun ad e => by cases e; have := lo_x1.out; have := hi_x1.out; have := lo_x2.out; have := hi_x2.out; show g2 ≠ g1; omega))
            replace x3 := Lib.hid (rowIs_o x3.out ok_ (fun ad e => by cases e; have := lo_x1.out; have := hi_x1.out; have := lo_x3.out; have := hi_x3.out; have := lo_x2.out; have := hi_x2.out; show g3 ≠ g1; omega))
            replace xb2 := Lib.hid (rowIs_o xb2.out ok_ (fun ad e => by cases e; have := lo_x1.out; have := hi_x1.out; have := lo_xb2.out; have := hi_xb2.out; have := lo_x2.out; have := hi_x2.out; have := lo_x3.out; have := hi_x3.out; show w8.heap.size ≠ g1; omega))
            replace yAP := Lib.hid (OwnV.o yAP.out ok_ (fun ad ad' e e' => by cases e'; have := lo_x1.out; have := hi_x1.out; have := lo_yAP.out ad e; have := hi_yAP.out ad e; have := lo_x2.out; have := hi_x2.out; have := lo_x3.out; have := hi_x3.out; have := lo_xb2.out; have := hi_xb2.out; show ad.block ≠ g1; omega))
            replace yAQ := Lib.hid (OwnV.o yAQ.out ok_ (fun ad ad' e e' => by cases e'; have := lo_x1.out; have := hi_x1.out; have := lo_yAQ.out ad e; have := hi_yAQ.out ad e; have := lo_x2.out; have := hi_x2.out; have := lo_x3.out; have := hi_x3.out; have := lo_xb2.out; have := hi_xb2.out; show ad.block ≠ g1; omega))
            replace xgPB := Lib.hid (rowIs_o xgPB.out ok_ (fun ad e => by cases e; have := lo_x1.out; have := hi_x1.out; have := lo_xgPB.out; have := hi_xgPB.out; have := lo_x2.out; have := hi_x2.out; have := lo_x3.out; have := hi_x3.out; have := lo_xb2.out; have := hi_xb2.out; have := mo_yAP.out; show w9.heap.size ≠ g1; omega))
            clear ok_ x1
            have hcX2_0 := row2_0 (xb2.out)
            have hcX2_1 := row2_1 (xb2.out)
            go_wp2_with fail
            refine (markView_b g2 n2 _ l2 g3 n3 _ l3 (1 + (n0 : Int) * 2 + (n1 : Int)) _ le2.out le3.out x2.out x3.out (by have := hi_x2.out; have := lo_x3.out; omega) hm2 hm3 (by omega) (by omega)).mono ?_
            rintro e w17 ⟨rfl, w17m, ok_, ok2_⟩
            clear hcX2_0 hcX2_1
            replace u := Lib.hid (u.out.trans (ok_.below u.out.size (fun ad e => by cases e; have := lo_x2.out; have := hi_x2.out; have := lo_xB2.out; have := hi_xB2.out; have := mo_yAM.out; have := lo_x0.out; have := hi_x0.out; have := lo_x1.out; have := hi_x1.out; show w.heap.size ≤ g2; omega)))
            replace sz := Lib.hid (Nat.le_trans sz.out ok_.size)
            replace xB2 := Lib.hid (rowIs_o xB2.out ok_ (fun ad e => by cases e; have := lo_x2.out; have := hi_x2.out; have := lo_xB2.out; have := hi_xB2.out; have := mo_yAM.out; have := lo_x0.out; have := hi_x0.out; have := lo_x1.out; have := hi_x1.out; show w.heap.size ≠ g2; omega))
            replace yAM := Lib.hid (OwnV.o yAM.out ok_ (fun ad ad' e e' => by cases e'; have := lo_x2.out; have := hi_x2.out; have := lo_yAM.out ad e; have := hi_yAM.out ad e; have := lo_x0.out; have := hi_x0.out; have := lo_x1.out; have := hi_x1.out; show ad.block ≠ g2; omega))
            replace yAN := Lib.hid (OwnV.o yAN.out ok_ (fun ad ad' e e' => by cases e'; have := lo_x2.out; have := hi_x2.out; have := lo_yAN.out ad e; have := hi_yAN.out ad e; have := lo_x0.out; have := hi_x0.out; have := lo_x1.out; have := hi_x1.out; show ad.block ≠ g2; omega))
            replace xgMB := Lib.hid (rowIs_o xgMB.out ok_ (fun ad e => by cases e; have := lo_x2.out; have := hi_x2.out; have := lo_xgMB.out; have := hi_xgMB.out; have := lo_x0.out; have := hi_x0.out; have := lo_x1.out; have := hi_x1.out; show gMB ≠ g2; omega))
            replace x3 := Lib.hid (rowIs_o x3.out ok_ (fun ad e => by cases e; have := lo_x2.out; have := hi_x2.out; have := lo_x3.out; have := hi_x3.out; show g3 ≠ g2; omega))
            replace xb2 := Lib.hid (rowIs_o xb2.out ok_ (fun ad e => by cases e; have := lo_x2.out; have := hi_x2.out; have := lo_xb2.out; have := hi_xb2.out; have := lo_x3.out; have := hi_x3.out; show w8.heap.size ≠ g2; omega))
            replace yAP := Lib.hid (OwnV.o yAP.out ok_ (fun ad ad' e e' => by cases e'; have := lo_x2.out; have := hi_x2.out; have := lo_yAP.out ad e; have := hi_yAP.out ad e; have := lo_x3.out; have := hi_x3.out; have := lo_xb2.out; have := hi_xb2.out; show ad.block ≠ g2; omega))
            replace yAQ := Lib.hid (OwnV.o yAQ.out ok_ (fun ad ad' e e' => by cases e'; have := lo_x2.out; have := hi_x2.out; have := lo_yAQ.out ad e; have := hi_yAQ.out ad e; have := lo_x3.out; have := hi_x3.out; have := lo_xb2.out; have := hi_xb2.out; show ad.block ≠ g2; omega))
            replace xgPB := Lib.hid (rowIs_o xgPB.out ok_ (fun ad e => by cases e; have := lo_x2.out; have := hi_x2.out; have := lo_xgPB.out; have := hi_xgPB.out; have := lo_x3.out; have := hi_x3.out; have := lo_xb2.out; have := hi_xb2.out; have := mo_yAP.out; show w9.heap.size ≠ g2; omega))
            clear ok_ x2
            replace u := Lib.hid (u.out.trans (ok2_.below u.out.size (fun ad e => by cases e; have := lo_x3.out; have := hi_x3.out; have := lo_xB2.out; have := hi_xB2.out; have := mo_yAM.out; have := lo_x0.out; have := hi_x0.out; have := lo_x1.out; have := hi_x1.out; have := lo_x2.out; have := hi_x2.out; show w.heap.size ≤ g3; omega)))
            replace sz := Lib.hid (Nat.le_trans sz.out ok2_.size)
            replace xB2 := Lib.hid (rowIs_o xB2.out ok2_ (fun ad e => by cases e; have := lo_x3.out; have := hi_x3.out; have := lo_xB2.out; have := hi_xB2.out; have := mo_yAM.out; have := lo_x0.out; have := hi_x0.out; have := lo_x1.out; have := hi_x1.out; have := lo_x2.out; have := hi_x2.out; show w.heap.size ≠ g3; omega))
            replace yAM := Lib.hid (OwnV.o yAM.out ok2_ (fun ad ad' e e' => by cases e'; have := lo_x3.out; have := hi_x3.out; have := lo_yAM.out ad e; have := hi_yAM.out ad e; have := lo_x0.out; have := hi_x0.out; have := lo_x1.out; have := hi_x1.out; have := lo_x2.out; have := hi_x2.out; show ad.block ≠ g3; omega))
            replace yAN := Lib.hid (OwnV.o yAN.out ok2_ (fun ad ad' e e' => by cases e'; have := lo_x3.out; have := hi_x3.out; have := lo_yAN.out ad e; have := hi_yAN.out ad e; have := lo_x0.out; have := hi_x0.out; have := lo_x1.out; have := hi_x1.out; have := lo_x2.out; have := hi_x2.out; show ad.block ≠ g3; omega))
            replace xgMB := Lib.hid (rowIs_o xgMB.out ok2_ (fun ad e => by cases e; have := lo_x3.out; have := hi_x3.out; have := lo_xgMB.out; have := hi_xgMB.out; have := lo_x0.out; have := hi_x0.out; have := lo_x1.out; have := hi_x1.out; have := lo_x2.out; have := hi_x2.out; show gMB ≠ g3; omega))
            replace xb2 := Lib.hid (rowIs_o xb2.out ok2_ (fun ad e => by cases e; have := lo_x3.out; have := hi_x3.out; have := lo_xb2.out; have := hi_xb2.out; show w8.heap.size ≠ g3; omega))
            replace yAP := Lib.hid (OwnV.o yAP.out ok2_ (fun ad ad' e e' => by cases e'; have := lo_x3.out; have := hi_x3.out; have := lo_yAP.out ad e; have := hi_yAP.out ad e; have := lo_xb2.out; have := hi_xb2.out; show ad.block ≠ g3; omega))
            replace yAQ := Lib.hid (OwnV.o yAQ.out ok2_ (fun ad ad' e e' => by cases e'; have := lo_x3.out; have := hi_x3.out; have := lo_yAQ.out ad e; have := hi_yAQ.out ad e; have := lo_xb2.out; have := hi_xb2.out; show ad.block ≠ g3; omega))
            replace xgPB := Lib.hid (rowIs_o xgPB.out ok2_ (fun ad e => by cases e; have := lo_x3.out; have := hi_x3.out; have := lo_xgPB.out; have := hi_xgPB.out; have := lo_xb2.out; have := hi_xb2.out; have := mo_yAP.out; show w9.heap.size ≠ g3; omega))
            clear ok2_ x3
            clear xb2
            have hk0 : ¬ (1 + (n0 : Int) * 2 + (n1 : Int) + ((n2 : Int) + n3) * 3 < 0) := by omega
            have hrgPB_0 := row2_0 (xgPB.out)
            have hrgPB_1 := row2_1 (xgPB.out)
            have hrgMB_0 := row2_0 (xgMB.out)
            have hrgMB_1 := row2_1 (xgMB.out)
            go_wp2_with fail
            refine (eqView_b AP AM nP nM cP cM _ AQ AN nQ nN cQ cN _ _ yAP.out.votes yAM.out.votes yAQ.out.votes yAN.out.votes (by omega) (by omega) (by omega) (by omega)).mono ?_
            rintro e w18 ⟨rfl, b18⟩
            clear hrgPB_0 hrgPB_1 hrgMB_0 hrgMB_1
            replace u := Lib.hid (u.out.trans (b18.mono u.out.size))
            replace sz := Lib.hid (Nat.le_trans sz.out b18.size)
            replace xB2 := Lib.hid (rowIs_below xB2.out b18 xB2.out.lt)
            replace yAM := Lib.hid (yAM.out.below b18)
            replace yAN := Lib.hid (yAN.out.below b18)
            replace xgMB := Lib.hid (rowIs_below xgMB.out b18 xgMB.out.lt)
            replace yAP := Lib.hid (yAP.out.below b18)
            replace yAQ := Lib.hid (yAQ.out.below b18)
            replace xgPB := Lib.hid (rowIs_below xgPB.out b18 xgPB.out.lt)
            clear b18
            clear hk0
            have hrgPB_0 := row2_0 (xgPB.out)
            have hrgPB_1 := row2_1 (xgPB.out)
            go_wp2_with fail
            refine (markViewR_b AP nP cP _ _ AQ nQ cQ _ _ 1 _ yAP.out yAQ.out apP.out (by omega) (by omega) (by decide) (by decide)).mono ?_
            rintro e w19 ⟨rfl, oP2, oQ2, w19m, ok_, ok2_⟩
            clear hrgPB_0 hrgPB_1
            replace u := Lib.hid (u.out.trans (ok_.below u.out.size (fun ad e => by have := lo_yAP.out ad e; have := hi_yAP.out ad e; have := lo_xB2.out; have := hi_xB2.out; have := mo_yAM.out; have := lo_x0.out; have := hi_x0.out; have := lo_x1.out; have := hi_x1.out; have := lo_x2.out; have := hi_x2.out; have := lo_x3.out; have := hi_x3.out; have := lo_xb2.out; have := hi_xb2.out; omega)))
            replace sz := Lib.hid (Nat.le_trans sz.out ok_.size)
            replace xB2 := Lib.hid (rowIs_o xB2.out ok_ (fun ad e => by have := lo_yAP.out ad e; have := hi_yAP.out ad e; have := lo_xB2.out; have := hi_xB2.out; have := mo_yAM.out; have := lo_x0.out; have := hi_x0.out; have := lo_x1.out; have := hi_x1.out; have := lo_x2.out; have := hi_x2.out; have := lo_x3.out; have := hi_x3.out; have := lo_xb2.out; have := hi_xb2.out; omega))
            replace yAM := Lib.hid (OwnV.o yAM.out ok_ (fun ad ad' e e' => by have := lo_yAP.out ad' e'; have := hi_yAP.out ad' e'; have := lo_yAM.out ad e; have := hi_yAM.out ad e; have := lo_x0.out; have := hi_x0.out; have := lo_x1.out; have := hi_x1.out; have := lo_x2.out; have := hi_x2.out; have := lo_x3.out; have := hi_x3.out; have := lo_xb2.out; have := hi_xb2.out; omega))
            replace yAN := Lib.hid (OwnV.o yAN.out ok_ (fun ad ad' e e' => by have := lo_yAP.out ad' e'; have := hi_yAP.out ad' e'; have := lo_yAN.out ad e; have := hi_yAN.out ad e; have := lo_x0.out; have := hi_x0.out; have := lo_x1.out; have := hi_x1.out; have := lo_x2.out; have := hi_x2.out; have := lo_x3.out; have := hi_x3.out; have := lo_xb2.out; have := hi_xb2.out; omega))
            replace xgMB := Lib.hid (rowIs_o xgMB.out ok_ (fun ad e => by have := lo_yAP.out ad e; have := hi_yAP.out ad e; have := lo_xgMB.out; have := hi_xgMB.out; have := lo_x0.out; have := hi_x0.out; have := lo_x1.out; have := hi_x1.out; have := lo_x2.out; have := hi_x2.out; have := lo_x3.out; have := hi_x3.out; have := lo_xb2.out; have := hi_xb2.out; omega))
            replace yAQ := Lib.hid (OwnV.o yAQ.out ok_ (fun ad ad' e e' => (apP.out ad' ad e' e).symm))
            replace xgPB := Lib.hid (rowIs_o xgPB.out ok_ (fun ad e => by have := lo_yAP.out ad e; have := hi_yAP.out ad e; have := lo_xgPB.out; have := hi_xgPB.out; omega))
            clear yAP ok_
            replace u := Lib.hid (u.out.trans (ok2_.below u.out.size (fun ad e => by have := lo_yAQ.out ad e; have := hi_yAQ.out ad e; have := lo_xB2.out; have := hi_xB2.out; have := mo_yAM.out; have := lo_x0.out; have := hi_x0.out; have := lo_x1.out; have := hi_x1.out; have := lo_x2.out; have := hi_x2.out; have := lo_x3.out; have := hi_x3.out; have := lo_xb2.out; have := hi_xb2.out; omega)))
            replace sz := Lib.hid (Nat.le_trans sz.out ok2_.size)
            replace xB2 := Lib.hid (rowIs_o xB2.out ok2_ (fun ad e => by have := lo_yAQ.out ad e; have := hi_yAQ.out ad e; have := lo_xB2.out; have := hi_xB2.out; have := mo_yAM.out; have := lo_x0.out; have := hi_x0.out; have := lo_x1.out; have := hi_x1.out; have := lo_x2.out; have := hi_x2.out; have := lo_x3.out; have := hi_x3.out; have := lo_xb2.out; have := hi_xb2.out; omega))
            replace yAM := Lib.hid (OwnV.o yAM.out ok2_ (fun ad ad' e e' => by have := lo_yAQ.out ad' e'; have := hi_yAQ.out ad' e'; have := lo_yAM.out ad e; have := hi_yAM.out ad e; have := lo_x0.out; have := hi_x0.out; have := lo_x1.out; have := hi_x1.out; have := lo_x2.out; have := hi_x2.out; have := lo_x3.out; have := hi_x3.out; have := lo_xb2.out; have := hi_xb2.out; omega))
            replace yAN := Lib.hid (OwnV.o yAN.out ok2_ (fun ad ad' e e' => by have := lo_yAQ.out ad' e'; have := hi_yAQ.out ad' e'; have := lo_yAN.out ad e; have := hi_yAN.out ad e; have := lo_x0.out; have := hi_x0.out; have := lo_x1.out; have := hi_x1.out; have := lo_x2.out; have := hi_x2.out; have := lo_x3.out; have := hi_x3.out; have := lo_xb2.out; have := hi_xb2.out; omega))
            replace xgMB := Lib.hid (rowIs_o xgMB.out ok2_ (fun ad e => by have := lo_yAQ.out ad e; have := hi_yAQ.out ad e; have := lo_xgMB.out; have := hi_xgMB.out; have := lo_x0.out; have := hi_x0.out; have := lo_x1.out; have := hi_x1.out; have := lo_x2.out; have := hi_x2.out; have := lo_x3.out; have := hi_x3.out; have := lo_xb2.out; have := hi_xb2.out; omega))
            replace xgPB := Lib.hid (rowIs_o xgPB.out ok2_ (fun ad e => by have := lo_yAQ.out ad e; have := hi_yAQ.out ad e; have := lo_xgPB.out; have := hi_xgPB.out; omega))
            clear yAQ ok2_
            have yAP := Lib.hid oP2; have yAQ := Lib.hid oQ2; clear oP2 oQ2
            have hrgPB_0 := row2_0 (xgPB.out)
            have hrgPB_1 := row2_1 (xgPB.out)
            go_wp2_with fail
            refine (heldView_b AP nP cP AQ nQ cQ 1 _ yAP.out.votes yAQ.out.votes (by omega) (by omega) (by decide) (by decide)).mono ?_
            rintro e w20 ⟨rfl, b20⟩
            clear hrgPB_0 hrgPB_1
            replace u := Lib.hid (u.out.trans (b20.mono u.out.size))
            replace sz := Lib.hid (Nat.le_trans sz.out b20.size)
            replace xB2 := Lib.hid (rowIs_below xB2.out b20 xB2.out.lt)
            replace yAM := Lib.hid (yAM.out.below b20)
            replace yAN := Lib.hid (yAN.out.below b20)
            replace xgMB := Lib.hid (rowIs_below xgMB.out b20 xgMB.out.lt)
            replace xgPB := Lib.hid (rowIs_below xgPB.out b20 xgPB.out.lt)
            replace yAP := Lib.hid (yAP.out.below b20)
            replace yAQ := Lib.hid (yAQ.out.below b20)
            clear b20
            have hlt0 : ¬ (1 + ((nP : Int) + nQ) * 3) < 0 := by omega
            have hne : ((1 + ((nP : Int) + nQ) * 3) != (1 + ((nP : Int) + nQ) * 3)) = false := by simp
            have hcB2_0 := row2_0 (xB2.out)
            have hcB2_1 := row2_1 (xB2.out)
            go_upto_region 37 with fail
            go_cut [18, 19] from 113 to 122 (fun s t wx => ∃ AX nX cX AY nY cY pX, s = .pointer (some ⟨pX, 0, none⟩) ∧ t = .bool (viewOk l0 l1 l2 l3) ∧ Hid (OwnV wx w20.heap.size AX nX (frzR l0 l1 l2 l3)) ∧ Hid (OwnV wx w20.heap.size AY nY (frzR l0 l1 l2 l3)) ∧ Hid (Apart AX AY) ∧ Hid (wx.rowIs pX 63 2 (fn2 (.slice AX nX cX) (.slice AY nY cY))) ∧ Hid (w20.heap.size ≤ pX) ∧ Hid (Below w20.heap.size w20 wx))
            case first =>
              have tk0 : True := trivial
              have hz_2_0 := row2_0 (rowIs_below (show w20.drew.rowIs w.heap.size 59 2 (fn2 (.slice A2 n2 c2) (.slice A3 n3 c3)) from xB2.out) (bx_below w20.drew (.cells #[.slice none 0 0, .slice none 0 0] 63)) (show w.heap.size < w20.drew.heap.size from xB2.out.lt))
              have hz_2_1 := row2_1 (rowIs_below (show w20.drew.rowIs w.heap.size 59 2 (fn2 (.slice A2 n2 c2) (.slice A3 n3 c3)) from xB2.out) (bx_below w20.drew (.cells #[.slice none 0 0, .slice none 0 0] 63)) (show w.heap.size < w20.drew.heap.size from xB2.out.lt))
              go_region_held3 (fun w' => w'.cell? ⟨w.heap.size, 0, none⟩ = some (.slice A2 n2 c2) ∧ w'.cell? ⟨w.heap.size, 1, none⟩ = some (.slice A3 n3 c3)) (first | assumption | (refine ⟨?_, ?_⟩ <;> assumption) | go_keep) (first
                | (clear tk0
                   go_at_call 17
                   refine (toBlk_g A0 n0 c0 l0 _ (show BlksAt w20.drew w20.drew.heap.size A0 n0 l0 from ⟨(ha0.out.up u.out).1, (ha0.out.up u.out).2⟩) hm0).mono ?_
                   rintro e wy0 ⟨gy0, rfl, ry0, by0, dy0, fy0⟩
                   have by_ := by0
                   have y0 := Lib.hid ry0
                   have ua0 := Lib.hid (show Below w20.heap.size w20 wy0 from ⟨by_.os, by_.tape, by_.output, by_.size, by_.block⟩)
                   have hd0_2_0 := row2_0 (rowIs_below xB2.out ua0.out xB2.out.lt)
                   have hd0_2_1 := row2_1 (rowIs_below xB2.out ua0.out xB2.out.lt)
                   have he0_2_0 := row2_0 (rowIs_below (rowIs_below xB2.out ua0.out xB2.out.lt) (bx_below wy0 (.cells #[.slice none 0 0, .slice none 0 0] 63)) (rowIs_below xB2.out ua0.out xB2.out.lt).lt)
                   have he0_2_1 := row2_1 (rowIs_below (rowIs_below xB2.out ua0.out xB2.out.lt) (bx_below wy0 (.cells #[.slice none 0 0, .slice none 0 0] 63)) (rowIs_below xB2.out ua0.out xB2.out.lt).lt)
                   clear ry0 by_ by0
                   have tk1 : True := trivial)
                | (clear tk0
                   go_at_call 17
                   have kb := bx_below w20.drew (.cells #[.slice none 0 0, .slice none 0 0] 63)
                   refine (toBlk_g A0 n0 c0 l0 _ ((show BlksAt w20.drew w20.drew.heap.size A0 n0 l0 from ⟨(ha0.out.up u.out).1, (ha0.out.up u.out).2⟩).up kb) hm0).mono ?_
                   rintro e wy0 ⟨gy0, rfl, ry0, by0, dy0, fy0⟩
                   have zb := Lib.hid (show wy0.rowIs w20.heap.size 63 2 (fn2 (.slice none 0 0) (.slice none 0 0)) from rowIs_below (bx_row2 w20.drew (.slice none 0 0) (.slice none 0 0) 63) by0 (by simp))
                   have lz := Lib.hid (show w20.heap.size ≤ w20.heap.size from Nat.le_refl _)
                   have by_ := kb.trans (by0.mono kb.size)
                   have y0 := Lib.hid ry0
                   have ua0 := Lib.hid (show Below w20.heap.size w20 wy0 from ⟨by_.os, by_.tape, by_.output, by_.size, by_.block⟩)
                   have hd0_2_0 := row2_0 (rowIs_below xB2.out ua0.out xB2.out.lt)
                   have hd0_2_1 := row2_1 (rowIs_below xB2.out ua0.out xB2.out.lt)
                   clear ry0 by_ by0 kb
                   have tk1 : True := trivial)
                | (clear tk1
                   go_at_call 18
                   refine (toInt_g A1 n1 c1 l1 _ (ha1.out.up' (u.out.trans (ua0.out.mono u.out.size))) hm1).mono ?_
                   rintro e wy1 ⟨gy1, rfl, ry1, by0, dy1, fy1⟩
                   have by_ := by0
                   try replace zb := Lib.hid (rowIs_below zb.out by_ zb.out.lt)
                   have y1 := Lib.hid ry1
                   replace y0 := Lib.hid (rowIs_below y0.out by_ y0.out.lt)
                   have ua1 := Lib.hid (ua0.out.trans (by_.mono ua0.out.size))
                   have hd1_2_0 := row2_0 (rowIs_below xB2.out ua1.out xB2.out.lt)
                   have hd1_2_1 := row2_1 (rowIs_below xB2.out ua1.out xB2.out.lt)
                   have he1_2_0 := row2_0 (rowIs_below (rowIs_below xB2.out ua1.out xB2.out.lt) (bx_below wy1 (.cells #[.slice none 0 0, .slice none 0 0] 63)) (rowIs_below xB2.out ua1.out xB2.out.lt).lt)
                   have he1_2_1 := row2_1 (rowIs_below (rowIs_below xB2.out ua1.out xB2.out.lt) (bx_below wy1 (.cells #[.slice none 0 0, .slice none 0 0] 63)) (rowIs_below xB2.out ua1.out xB2.out.lt).lt)
                   clear ry1 by_ by0
                   have tk2 : True := trivial)
                | (clear tk1
                   go_at_call 18
                   have kb := bx_below wy0 (.cells #[.slice none 0 0, .slice none 0 0] 63)
                   refine (toInt_g A1 n1 c1 l1 _ (ha1.out.up' ((u.out.trans (ua0.out.mono u.out.size)).trans (kb.mono (u.out.trans (ua0.out.mono u.out.size)).size))) hm1).mono ?_
                   rintro e wy1 ⟨gy1, rfl, ry1, by0, dy1, fy1⟩
                   have zb := Lib.hid (show wy1.rowIs wy0.heap.size 63 2 (fn2 (.slice none 0 0) (.slice none 0 0)) from rowIs_below (bx_row2 wy0 (.slice none 0 0) (.slice none 0 0) 63) by0 (by simp))
                   have lz := Lib.hid (show w20.heap.size ≤ wy0.heap.size from ua0.out.size)
                   have by_ := kb.trans (by0.mono kb.size)
                   have y1 := Lib.hid ry1
                   replace y0 := Lib.hid (rowIs_below y0.out by_ y0.out.lt)
                   have ua1 := Lib.hid (ua0.out.trans (by_.mono ua0.out.size))
                   have hd1_2_0 := row2_0 (rowIs_below xB2.out ua1.out xB2.out.lt)
                   have hd1_2_1 := row2_1 (rowIs_below xB2.out ua1.out xB2.out.lt)
                   clear ry1 by_ by0 kb
                   have tk2 : True := trivial)
                | (clear tk2
                   go_at_call 39
                   refine (toView_g A2 n2 c2 l2 A3 n3 c3 l3 _ (ha2.out.up (u.out.trans (ua1.out.mono u.out.size))) (ha3.out.up (u.out.trans (ua1.out.mono u.out.size))) hm2 hm3).mono ?_
                   rintro e wy2 ⟨gy2, gy3, rfl, ry2, ry3, by0, dy2, fy2, fy3⟩
                   have by_ := by0
                   try replace zb := Lib.hid (rowIs_below zb.out by_ zb.out.lt)
                   have y2 := Lib.hid ry2
                   have y3 := Lib.hid ry3
                   replace y0 := Lib.hid (rowIs_below y0.out by_ y0.out.lt)
                   replace y1 := Lib.hid (rowIs_below y1.out by_ y1.out.lt)
                   have ua2 := Lib.hid (ua1.out.trans (by_.mono ua1.out.size))
                   have hd2_2_0 := row2_0 (rowIs_below xB2.out ua2.out xB2.out.lt)
                   have hd2_2_1 := row2_1 (rowIs_below xB2.out ua2.out xB2.out.lt)
                   have he2_2_0 := row2_0 (rowIs_below (rowIs_below xB2.out ua2.out xB2.out.lt) (bx_below wy2 (.cells #[.slice none 0 0, .slice none 0 0] 63)) (rowIs_below xB2.out ua2.out xB2.out.lt).lt)
                   have he2_2_1 := row2_1 (rowIs_below (rowIs_below xB2.out ua2.out xB2.out.lt) (bx_below wy2 (.cells #[.slice none 0 0, .slice none 0 0] 63)) (rowIs_below xB2.out ua2.out xB2.out.lt).lt)
                   clear ry2 ry3 by_ by0
                   have tk3 : True := trivial)
                | (clear tk2
                   go_at_call 39
                   have kb := bx_below wy1 (.cells #[.slice none 0 0, .slice none 0 0] 63)
                   refine (toView_g A2 n2 c2 l2 A3 n3 c3 l3 _ (ha2.out.up ((u.out.trans (ua1.out.mono u.out.size)).trans (kb.mono (u.out.trans (ua1.out.mono u.out.size)).size))) (ha3.out.up ((u.out.trans (ua1.out.mono u.out.size)).trans (kb.mono (u.out.trans (ua1.out.mono u.out.size)).size))) hm2 hm3).mono ?_
                   rintro e wy2 ⟨gy2, gy3, rfl, ry2, ry3, by0, dy2, fy2, fy3⟩
                   have zb := Lib.hid (show wy2.rowIs wy1.heap.size 63 2 (fn2 (.slice none 0 0) (.slice none 0 0)) from rowIs_below (bx_row2 wy1 (.slice none 0 0) (.slice none 0 0) 63) by0 (by simp))
                   have lz := Lib.hid (show w20.heap.size ≤ wy1.heap.size from ua1.out.size)
                   have by_ := kb.trans (by0.mono kb.size)
                   have y2 := Lib.hid ry2
                   have y3 := Lib.hid ry3
                   replace y0 := Lib.hid (rowIs_below y0.out by_ y0.out.lt)
                   replace y1 := Lib.hid (rowIs_below y1.out by_ y1.out.lt)
                   have ua2 := Lib.hid (ua1.out.trans (by_.mono ua1.out.size))
                   have hd2_2_0 := row2_0 (rowIs_below xB2.out ua2.out xB2.out.lt)
                   have hd2_2_1 := row2_1 (rowIs_below xB2.out ua2.out xB2.out.lt)
                   clear ry2 ry3 by_ by0 kb
                   have tk3 : True := trivial)
                | (clear tk3
                   go_at_call 47
                   refine (implFreezeView_any _ n0 _ l0 _ n1 _ l1 _ n2 _ l2 _ n3 _ l3 _ (row_blks' le0.out y0.out) (row_ints le1.out y1.out) (row_votesB le2.out y2.out) (row_votesB le3.out y3.out) hm0 hm1 hm2 hm3 (Nat.le_refl _) (fun e => by cases e) (Nat.le_refl _) (fun e => by cases e)).mono ?_
                   rintro e we ⟨AX, nX, cX, AY, nY, cY, rfl, oe, oe2, hap, be⟩
                   try have gz := Lib.hid zb.out.lt
                   try replace zb := Lib.hid (rowIs_below zb.out be zb.out.lt)
                   have hB := Lib.hid ua2.out.size
                   try have hzb0 := row2_0 (zb.out)
                   try have hzf0 := zb.out.frozen 0
                   try have hzb1 := row2_1 (zb.out)
                   try have hzf1 := zb.out.frozen 1
                   have ye := Lib.hid oe
                   have ye2 := Lib.hid oe2
                   have yap := Lib.hid hap
                   have ue := Lib.hid (ua2.out.trans (be.mono ua2.out.size))
                   have hw_2_0 := row2_0 (rowIs_below xB2.out ue.out xB2.out.lt)
                   have hw_2_1 := row2_1 (rowIs_below xB2.out ue.out xB2.out.lt)
                   have hv_2_0 := row2_0 (rowIs_below (rowIs_below xB2.out ue.out xB2.out.lt) (bx_below we (.cells #[.slice AX nX cX, .slice AY nY cY] 63)) (rowIs_below xB2.out ue.out xB2.out.lt).lt)
                   have hv_2_1 := row2_1 (rowIs_below (rowIs_below xB2.out ue.out xB2.out.lt) (bx_below we (.cells #[.slice AX nX cX, .slice AY nY cY] 63)) (rowIs_below xB2.out ue.out xB2.out.lt).lt)
                   have hu_2_0 := row2_0 (rowIs_below (rowIs_below xB2.out ue.out xB2.out.lt) (bx_below we (.cells #[.slice none 0 0, .slice none 0 0] 63)) (rowIs_below xB2.out ue.out xB2.out.lt).lt)
                   have hu_2_1 := row2_1 (rowIs_below (rowIs_below xB2.out ue.out xB2.out.lt) (bx_below we (.cells #[.slice none 0 0, .slice none 0 0] 63)) (rowIs_below xB2.out ue.out xB2.out.lt).lt)
                   try have hs_2_0 := row2_0 (keep_set2 zb.out (rowIs_below xB2.out ue.out xB2.out.lt) (Nat.lt_of_lt_of_le xB2.out.lt lz.out) (.slice AX nX cX) (.slice AY nY cY))
                   try have hs_2_1 := row2_1 (keep_set2 zb.out (rowIs_below xB2.out ue.out xB2.out.lt) (Nat.lt_of_lt_of_le xB2.out.lt lz.out) (.slice AX nX cX) (.slice AY nY cY))
                   clear be oe oe2 hap)
                | (clear tk3
                   go_at_call 47
                   have kb := bx_below wy2 (.cells #[.slice none 0 0, .slice none 0 0] 63)
                   refine (implFreezeView_any _ n0 _ l0 _ n1 _ l1 _ n2 _ l2 _ n3 _ l3 _ (row_blks' le0.out (rowIs_below y0.out kb y0.out.lt)) (row_ints le1.out (rowIs_below y1.out kb y1.out.lt)) (row_votesB le2.out (rowIs_below y2.out kb y2.out.lt)) (row_votesB le3.out (rowIs_below y3.out kb y3.out.lt)) hm0 hm1 hm2 hm3 (Nat.le_refl _) (fun e => by cases e) (Nat.le_refl _) (fun e => by cases e)).mono ?_
                   rintro e we ⟨AX, nX, cX, AY, nY, cY, rfl, oe, oe2, hap, be⟩
                   have zb := Lib.hid (rowIs_below (bx_row2 wy2 (.slice none 0 0) (.slice none 0 0) 63) be (by simp))
                   have lz := Lib.hid (show w20.heap.size ≤ wy2.heap.size from ua2.out.size)
                   have gz := Lib.hid (show wy2.heap.size < (wy2.alloc (.cells #[.slice none 0 0, .slice none 0 0] 63)).heap.size by simp)
                   have hB := Lib.hid (Nat.le_trans ua2.out.size kb.size)
                   have hzb0 := row2_0 (zb.out)
                   have hzf0 := zb.out.frozen 0
                   have hzb1 := row2_1 (zb.out)
                   have hzf1 := zb.out.frozen 1
                   have ye := Lib.hid oe
                   have ye2 := Lib.hid oe2
                   have yap := Lib.hid hap
                   have ue := Lib.hid (ua2.out.trans ((kb.trans (be.mono kb.size)).mono ua2.out.size))
                   have hw_2_0 := row2_0 (rowIs_below xB2.out ue.out xB2.out.lt)
                   have hw_2_1 := row2_1 (rowIs_below xB2.out ue.out xB2.out.lt)
                   have hv_2_0 := row2_0 (rowIs_below (rowIs_below xB2.out ue.out xB2.out.lt) (bx_below we (.cells #[.slice AX nX cX, .slice AY nY cY] 63)) (rowIs_below xB2.out ue.out xB2.out.lt).lt)
                   have hv_2_1 := row2_1 (rowIs_below (rowIs_below xB2.out ue.out xB2.out.lt) (bx_below we (.cells #[.slice AX nX cX, .slice AY nY cY] 63)) (rowIs_below xB2.out ue.out xB2.out.lt).lt)
                   have hu_2_0 := row2_0 (rowIs_below (rowIs_below xB2.out ue.out xB2.out.lt) (bx_below we (.cells #[.slice none 0 0, .slice none 0 0] 63)) (rowIs_below xB2.out ue.out xB2.out.lt).lt)
                   have hu_2_1 := row2_1 (rowIs_below (rowIs_below xB2.out ue.out xB2.out.lt) (bx_below we (.cells #[.slice none 0 0, .slice none 0 0] 63)) (rowIs_below xB2.out ue.out xB2.out.lt).lt)
                   have hs_2_0 := row2_0 (keep_set2 zb.out (rowIs_below xB2.out ue.out xB2.out.lt) (Nat.lt_of_lt_of_le xB2.out.lt lz.out) (.slice AX nX cX) (.slice AY nY cY))
                   have hs_2_1 := row2_1 (keep_set2 zb.out (rowIs_below xB2.out ue.out xB2.out.lt) (Nat.lt_of_lt_of_le xB2.out.lt lz.out) (.slice AX nX cX) (.slice AY nY cY))
                   clear be oe oe2 hap kb))
              all_goals
                go_wp2_with fail
                go_meet
                case rel => first
                  | exact ⟨_, _, _, _, _, _, _, rfl, rfl, Lib.hid ((ye.out.below (bx_below we _)).fewer hB.out), Lib.hid ((ye2.out.below (bx_below we _)).fewer hB.out), yap, Lib.hid (bx_row2 we _ _ _), Lib.hid ue.out.size, Lib.hid (ue.out.trans ((bx_below we _).mono ue.out.size))⟩
                  | exact ⟨_, _, _, _, _, _, _, rfl, rfl, Lib.hid ((ye.out.setBox2 gz.out _ _).fewer hB.out), Lib.hid ((ye2.out.setBox2 gz.out _ _).fewer hB.out), yap, Lib.hid (row2_set zb.out _ _), Lib.hid lz.out, Lib.hid ((ue.out.setCell (p := ⟨_, 0, none⟩) lz.out _).setCell (p := ⟨_, 1, none⟩) lz.out _)⟩
            case rest =>
              obtain ⟨AH, nH, cH, AI, nI, cI, gHB, rfl, rfl, yAH, yAI, apAH, xgHB, lgHB, k5⟩ := hcut
              skip
              have k6 := k5.out
              clear k5
              clear hcB2_0 hcB2_1
              have hnH : nH ≤ 100 := by rw [← yAH.out.len]; exact hlen0.out
              have hnI : nI ≤ 100 := by rw [← yAI.out.len]; exact hlen1.out
              replace u := Lib.hid (u.out.trans (k6.mono u.out.size))
              replace sz := Lib.hid (Nat.le_trans sz.out k6.size)
              replace xB2 := Lib.hid (rowIs_below xB2.out k6 xB2.out.lt)
              replace yAM := Lib.hid (yAM.out.below k6)
              replace yAN := Lib.hid (yAN.out.below k6)
              replace xgMB := Lib.hid (rowIs_below xgMB.out k6 xgMB.out.lt)
              replace xgPB := Lib.hid (rowIs_below xgPB.out k6 xgPB.out.lt)
              replace yAP := Lib.hid (yAP.out.below k6)
              replace yAQ := Lib.hid (yAQ.out.below k6)
              clear k6
              have hrgHB_0 := row2_0 (xgHB.out)
              have hrgHB_1 := row2_1 (xgHB.out)
              have hrgMB_0 := row2_0 (xgMB.out)
              have hrgMB_1 := row2_1 (xgMB.out)
              go_wp2_with fail
              refine (eqView_b AH AM nH nM cH cM _ AI AN nI nN cI cN _ _ yAH.out.votes yAM.out.votes yAI.out.votes yAN.out.votes (by omega) (by omega) (by omega) (by omega)).mono ?_
              rintro e w21 ⟨rfl, b21⟩
              clear hrgHB_0 hrgHB_1 hrgMB_0 hrgMB_1
              replace u := Lib.hid (u.out.trans (b21.mono u.out.size))
              replace sz := Lib.hid (Nat.le_trans sz.out b21.size)
              replace xB2 := Lib.hid (rowIs_below xB2.out b21 xB2.out.lt)
              replace yAM := Lib.hid (yAM.out.below b21)
              replace yAN := Lib.hid (yAN.out.below b21)
              replace xgMB := Lib.hid (rowIs_below xgMB.out b21 xgMB.out.lt)
              replace xgPB := Lib.hid (rowIs_below xgPB.out b21 xgPB.out.lt)
              replace yAP := Lib.hid (yAP.out.below b21)
              replace yAQ := Lib.hid (yAQ.out.below b21)
              replace yAH := Lib.hid (yAH.out.below b21)
              replace yAI := Lib.hid (yAI.out.below b21)
              replace xgHB := Lib.hid (rowIs_below xgHB.out b21 xgHB.out.lt)
              clear b21
              have hrgPB_0 := row2_0 (xgPB.out)
              have hrgPB_1 := row2_1 (xgPB.out)
              go_wp2_with fail
              refine (heldView_b AP nP cP AQ nQ cQ 1 _ yAP.out.votes yAQ.out.votes (by omega) (by omega) (by decide) (by decide)).mono ?_
              rintro e w22 ⟨rfl, b22⟩
              clear hrgPB_0 hrgPB_1
              replace u := Lib.hid (u.out.trans (b22.mono u.out.size))
              replace sz := Lib.hid (Nat.le_trans sz.out b22.size)
              replace xB2 := Lib.hid (rowIs_below xB2.out b22 xB2.out.lt)
              replace yAM := Lib.hid (yAM.out.below b22)
              replace yAN := Lib.hid (yAN.out.below b22)
              replace xgMB := Lib.hid (rowIs_below xgMB.out b22 xgMB.out.lt)
              replace xgPB := Lib.hid (rowIs_below xgPB.out b22 xgPB.out.lt)
              replace yAP := Lib.hid (yAP.out.below b22)
              replace yAQ := Lib.hid (yAQ.out.below b22)
              replace yAH := Lib.hid (yAH.out.below b22)
              replace yAI := Lib.hid (yAI.out.below b22)
              replace xgHB := Lib.hid (rowIs_below xgHB.out b22 xgHB.out.lt)
              clear b22
              go_wp2_with fail
              go_ret
              exact ⟨rfl, u.out⟩
      · skip
        have lf2 := Lib.hid (show (if ((n2 : Int) + (n3 : Int)) ≤ 1048576 - (n0 : Int) then 1048576 - (n0 : Int) - ((n2 : Int) + (n3 : Int)) else -1) = -1 from if_neg hz2)
        clear h0 h1 h2 h3
        go_enter Try.func8, Try.ntmps8
        have tk0 : True := trivial
        go_wp2_with (first
          | (clear tk0; go_at_call 14; refine (szBlk_g _ n0 _ (1048576) _ hn0 (by omega) (by omega)).mono ?_; rintro e w' ⟨rfl, rfl⟩; rw [lf0.out]; have tk1 : True := trivial)
          | (clear tk1; go_at_call 37; refine (szView_g _ n2 _ _ n3 _ (1048576 - (n0 : Int)) _ hn2 hn3 (by omega) (by omega)).mono ?_; rintro e w2z ⟨rfl, bz⟩; rw [lf2.out]; replace u := Lib.hid (u.out.trans (bz.mono u.out.size)); replace sz := Lib.hid (Nat.le_trans sz.out bz.size); replace xB2 := Lib.hid (rowIs_below xB2.out bz xB2.out.lt); clear bz hcB2_0 hcB2_1; have hcB2_0 := row2_0 (xB2.out); have hcB2_1 := row2_1 (xB2.out); have tk2 : True := trivial))
        go_ret
        exact ⟨rfl, u.out⟩
    · skip
      have lf0 := Lib.hid (show (if (n0 : Int) ≤ 1048576 then 1048576 - (n0 : Int) else -1) = -1 from if_neg hz0)
      clear h0 h1 h2 h3
      go_enter Try.func8, Try.ntmps8
      have tk0 : True := trivial
      go_wp2_with (first
        | (clear tk0; go_at_call 14; refine (szBlk_g _ n0 _ (1048576) _ hn0 (by omega) (by omega)).mono ?_; rintro e w' ⟨rfl, rfl⟩; rw [lf0.out]; have tk1 : True := trivial))
      go_ret
      exact ⟨rfl, u.out⟩
  · skip
    have hgt : (1048576 : Int) < (n1 : Int) := by omega
    clear h0 h1 h2 h3
    go_enter Try.func8, Try.ntmps8
    go_wp2_with fail
    go_ret
    exact ⟨rfl, u.out⟩
end Go.Proofs.Ytlobjfipefibaaa
