/- What is proved here: the law on MergeView returns true at every argument, and writes nothing that was there. No conditions. -/
import Derived.Test.YtlobjfipefibaaaViewFns
import Derived.Test.YtlobjfipefibaaaViewSpec2
import Derived.Test.YtlobjfipefibaaaViewBox
import Derived.Deep.Cut
import Derived.Deep.CutRange
import Derived.Deep.RegionHeld3
namespace Go.Proofs.Ytlobjfipefibaaa
open Go.RowKit

set_option maxRecDepth 100000 in
set_option maxHeartbeats 64000000 in
theorem lawMergeView (A0 : Option Addr) (n0 c0 : Nat) (l0 : List Blk) (A1 : Option Addr) (n1 c1 : Nat) (l1 : List Int) (A2 : Option Addr) (n2 c2 : Nat) (l2 : List Vt) (A3 : Option Addr) (n3 c3 : Nat) (l3 : List Vt) (A4 : Option Addr) (n4 c4 : Nat) (l4 : List Vt) (w : World) (h0 : BlksAt w w.heap.size A0 n0 l0) (hn0 : n0 ≤ 140737488351232) (h1 : IntsAt w w.heap.size A1 n1 l1) (hn1 : n1 ≤ 140737488351232) (h2 : VotesAt w w.heap.size A2 n2 l2) (hn2 : n2 ≤ 9223372036854775807) (h3 : VotesAt w w.heap.size A3 n3 l3) (hn3 : n3 ≤ 9223372036854775807) (h4 : VotesAt w w.heap.size A4 n4 l4) (hn4 : n4 ≤ 9223372036854775807) :
    Calls Try.prog 9 #[.slice A0 n0 c0, .slice A1 n1 c1, .agg #[.slice A2 n2 c2, .slice A3 n3 c3], .agg #[.slice A4 n4 c4]] w fun e w' => e = .returned (.bool true) ∧ Below w.heap.size w w' := by
  have u := Lib.hid (Below.refl w.heap.size w)
  have xB2 := Lib.hid (bx_row2 (w) (.slice A2 n2 c2) (.slice A3 n3 c3) 59)
  replace u := Lib.hid (u.out.trans ((bx_below (w) (.cells #[.slice A2 n2 c2, .slice A3 n3 c3] 59)).mono u.out.size))
  replace xB2 := Lib.hid (rowIs_below xB2.out (bx_below ((w).alloc (.cells #[.slice A2 n2 c2, .slice A3 n3 c3] 59)) (.cells #[.slice A4 n4 c4] 46)) xB2.out.lt)
  have xB3 := Lib.hid (bx_row ((w).alloc (.cells #[.slice A2 n2 c2, .slice A3 n3 c3] 59)) (.slice A4 n4 c4) 46)
  replace u := Lib.hid (u.out.trans ((bx_below ((w).alloc (.cells #[.slice A2 n2 c2, .slice A3 n3 c3] 59)) (.cells #[.slice A4 n4 c4] 46)).mono u.out.size))
  simp only [World.size_alloc] at xB3
  have sz := Lib.hid (show w.heap.size + 2 ≤ (((w).alloc (.cells #[.slice A2 n2 c2, .slice A3 n3 c3] 59)).alloc (.cells #[.slice A4 n4 c4] 46)).heap.size by simp)
  have lo_xB2 := Lib.hid (show w.heap.size + 0 ≤ w.heap.size by omega)
  have hi_xB2 := Lib.hid (show w.heap.size < w.heap.size + 1 by omega)
  have lo_xB3 := Lib.hid (show w.heap.size + 1 ≤ (w.heap.size + 1) by omega)
  have hi_xB3 := Lib.hid (show (w.heap.size + 1) < w.heap.size + 2 by omega)
  have hcB2_0 := row2_0 (xB2.out)
  have hcB2_1 := row2_1 (xB2.out)
  have hcB3_0 := (xB3.out).cell (i := 0) (by omega)
  by_cases hm1 : n1 ≤ 1048576
  · skip
    by_cases hz0 : (n0 : Int) ≤ 1048576
    · skip
      have hm0 : n0 ≤ 1048576 := by omega
      have lf0 := Lib.hid (show (if (n0 : Int) ≤ 1048576 then 1048576 - (n0 : Int) else -1) = 1048576 - (n0 : Int) from if_pos hz0)
      have lp0 : ¬ (1048576 - (n0 : Int) < 0) := by omega
      by_cases hz2 : ((n2 : Int) + (n3 : Int)) ≤ 1048576 - (n0 : Int)
      · skip
        have hm2 : n2 ≤ 1048576 := by omega
        have hm3 : n3 ≤ 1048576 := by omega
        have lf2 := Lib.hid (show (if ((n2 : Int) + (n3 : Int)) ≤ 1048576 - (n0 : Int) then 1048576 - (n0 : Int) - ((n2 : Int) + (n3 : Int)) else -1) = 1048576 - (n0 : Int) - ((n2 : Int) + (n3 : Int)) from if_pos hz2)
        have lp2 : ¬ (1048576 - (n0 : Int) - ((n2 : Int) + (n3 : Int)) < 0) := by omega
        by_cases hz4 : (n4 : Int) ≤ 1048576 - (n0 : Int) - ((n2 : Int) + (n3 : Int))
        · skip
          have hm4 : n4 ≤ 1048576 := by omega
          have lf4 := Lib.hid (show (if (n4 : Int) ≤ 1048576 - (n0 : Int) - ((n2 : Int) + (n3 : Int)) then 1048576 - (n0 : Int) - ((n2 : Int) + (n3 : Int)) - (n4 : Int) else -1) = 1048576 - (n0 : Int) - ((n2 : Int) + (n3 : Int)) - (n4 : Int) from if_pos hz4)
          have lp4 : ¬ (1048576 - (n0 : Int) - ((n2 : Int) + (n3 : Int)) - (n4 : Int) < 0) := by omega
          have le0 := Lib.hid h0.1; have ha0 := Lib.hid h0
          have le1 := Lib.hid h1.1; have ha1 := Lib.hid h1
          have le2 := Lib.hid h2.1; have ha2 := Lib.hid h2
          have le3 := Lib.hid h3.1; have ha3 := Lib.hid h3
          have le4 := Lib.hid h4.1; have ha4 := Lib.hid h4
          clear h0 h1 h2 h3 h4 hz0 hz2 hz4
          have hq0 : (mvOK l0 l1 l2 l3 l4 != mvOK l0 l1 l2 l3 l4) = false := by simp
          have hlen0 := Lib.hid (mvS_len l0 l1 l2 l3 l4)
          have hlen1 := Lib.hid (mvF_len l0 l1 l2 l3 l4)
          go_enter Try.func9, Try.ntmps9
          have tk0 : True := trivial
          go_upto_region 13 with (first
            | (clear tk0; go_at_call 14; refine (szBlk_g _ n0 _ (1048576) _ hn0 (by omega) (by omega)).mono ?_; rintro e w' ⟨rfl, rfl⟩; rw [lf0.out]; have tk1 : True := trivial)
            | (clear tk1; go_at_call 37; refine (szView_g _ n2 _ _ n3 _ (1048576 - (n0 : Int)) _ hn2 hn3 (by omega) (by omega)).mono ?_; rintro e w2z ⟨rfl, bz⟩; rw [lf2.out]; replace u := Lib.hid (u.out.trans (bz.mono u.out.size)); replace sz := Lib.hid (Nat.le_trans sz.out bz.size); replace xB2 := Lib.hid (rowIs_below xB2.out bz xB2.out.lt); replace xB3 := Lib.hid (rowIs_below xB3.out bz xB3.out.lt); clear bz hcB2_0 hcB2_1 hcB3_0; have hcB2_0 := row2_0 (xB2.out); have hcB2_1 := row2_1 (xB2.out); have hcB3_0 := (xB3.out).cell (i := 0) (by omega); have tk2 : True := trivial)
            | (clear tk2; go_at_call 30; refine (szPool_g _ n4 _ (1048576 - (n0 : Int) - ((n2 : Int) + (n3 : Int))) _ hn4 (by omega) (by omega)).mono ?_; rintro e w4z ⟨rfl, bz⟩; rw [lf4.out]; replace u := Lib.hid (u.out.trans (bz.mono u.out.size)); replace sz := Lib.hid (Nat.le_trans sz.out bz.size); replace xB2 := Lib.hid (rowIs_below xB2.out bz xB2.out.lt); replace xB3 := Lib.hid (rowIs_below xB3.out bz xB3.out.lt); clear bz hcB2_0 hcB2_1 hcB3_0; have hcB2_0 := row2_0 (xB2.out); have hcB2_1 := row2_1 (xB2.out); have hcB3_0 := (xB3.out).cell (i := 0) (by omega); have tk3 : True := trivial))
          clear tk3
          go_cut [10, 11] from 41 to 52 (fun s t wx => ∃ AX nX cX AY nY cY pX, s = .pointer (some ⟨pX, 0, none⟩) ∧ t = .bool (mvOK l0 l1 l2 l3 l4) ∧ Hid (OwnV wx w4z.heap.size AX nX (mvS l0 l1 l2 l3 l4)) ∧ Hid (OwnV wx w4z.heap.size AY nY (mvF l0 l1 l2 l3 l4)) ∧ Hid (Apart AX AY) ∧ Hid (wx.rowIs pX 63 2 (fn2 (.slice AX nX cX) (.slice AY nY cY))) ∧ Hid (w4z.heap.size ≤ pX) ∧ Hid (Below w4z.heap.size w4z wx))
          case first =>
            have tk0 : True := trivial
            have hz_2_0 := row2_0 (rowIs_below (show w4z.drew.rowIs w.heap.size 59 2 (fn2 (.slice A2 n2 c2) (.slice A3 n3 c3)) from xB2.out) (bx_below w4z.drew (.cells #[.slice none 0 0, .slice none 0 0] 63)) (show w.heap.size < w4z.drew.heap.size from xB2.out.lt))
            have hz_2_1 := row2_1 (rowIs_below (show w4z.drew.rowIs w.heap.size 59 2 (fn2 (.slice A2 n2 c2) (.slice A3 n3 c3)) from xB2.out) (bx_below w4z.drew (.cells #[.slice none 0 0, .slice none 0 0] 63)) (show w.heap.size < w4z.drew.heap.size from xB2.out.lt))
            have hz_3_0 := (rowIs_below (show w4z.drew.rowIs (w.heap.size + 1) 46 1 (fun _ => .slice A4 n4 c4) from xB3.out) (bx_below w4z.drew (.cells #[.slice none 0 0, .slice none 0 0] 63)) (show (w.heap.size + 1) < w4z.drew.heap.size from xB3.out.lt)).cell (i := 0) (by omega)
            go_region_held3 (fun w' => w'.cell? ⟨w.heap.size, 0, none⟩ = some (.slice A2 n2 c2) ∧ w'.cell? ⟨w.heap.size, 1, none⟩ = some (.slice A3 n3 c3) ∧ w'.cell? ⟨(w.heap.size + 1), 0, none⟩ = some (.slice A4 n4 c4)) (first | assumption | (refine ⟨?_, ?_, ?_⟩ <;> assumption) | go_keep) (first
              | (clear tk0
                 go_at_call 17
                 refine (toBlk_g A0 n0 c0 l0 _ (show BlksAt w4z.drew w4z.drew.heap.size A0 n0 l0 from ⟨(ha0.out.up u.out).1, (ha0.out.up u.out).2⟩) hm0).mono ?_
                 rintro e wy0 ⟨gy0, rfl, ry0, by0, dy0, fy0⟩
                 have by_ := by0
                 have y0 := Lib.hid ry0
                 have ua0 := Lib.hid (show Below w4z.heap.size w4z wy0 from ⟨by_.os, by_.tape, by_.output, by_.size, by_.block⟩)
                 have hd0_2_0 := row2_0 (rowIs_below xB2.out ua0.out xB2.out.lt)
                 have hd0_2_1 := row2_1 (rowIs_below xB2.out ua0.out xB2.out.lt)
                 have hd0_3_0 := (rowIs_below xB3.out ua0.out xB3.out.lt).cell (i := 0) (by omega)
                 have he0_2_0 := row2_0 (rowIs_below (rowIs_below xB2.out ua0.out xB2.out.lt) (bx_below wy0 (.cells #[.slice none 0 0, .slice none 0 0] 63)) (rowIs_below xB2.out ua0.out xB2.out.lt).lt)
                 have he0_2_1 := row2_1 (rowIs_below (rowIs_below xB2.out ua0.out xB2.out.lt) (bx_below wy0 (.cells #[.slice none 0 0, .slice none 0 0] 63)) (rowIs_below xB2.out ua0.out xB2.out.lt).lt)
                 have he0_3_0 := (rowIs_below (rowIs_below xB3.out ua0.out xB3.out.lt) (bx_below wy0 (.cells #[.slice none 0 0, .slice none 0 0] 63)) (rowIs_below xB3.out ua0.out xB3.out.lt).lt).cell (i := 0) (by omega)
                 clear ry0 by_ by0
                 have tk1 : True := trivial)
              | (clear tk0
                 go_at_call 17
                 have kb := bx_below w4z.drew (.cells #[.slice none 0 0, .slice none 0 0] 63)
                 refine (toBlk_g A0 n0 c0 l0 _ ((show BlksAt w4z.drew w4z.drew.heap.size A0 n0 l0 from ⟨(ha0.out.up u.out).1, (ha0.out.up u.out).2⟩).up kb) hm0).mono ?_
                 rintro e wy0 ⟨gy0, rfl, ry0, by0, dy0, fy0⟩
                 have zb := Lib.hid (show wy0.rowIs w4z.heap.size 63 2 (fn2 (.slice none 0 0) (.slice none 0 0)) from rowIs_below (bx_row2 w4z.drew (.slice none 0 0) (.slice none 0 0) 63) by0 (by simp))
                 have lz := Lib.hid (show w4z.heap.size ≤ w4z.heap.size from Nat.le_refl _)
                 have by_ := kb.trans (by0.mono kb.size)
                 have y0 := Lib.hid ry0
                 have ua0 := Lib.hid (show Below w4z.heap.size w4z wy0 from ⟨by_.os, by_.tape, by_.output, by_.size, by_.block⟩)
                 have hd0_2_0 := row2_0 (rowIs_below xB2.out ua0.out xB2.out.lt)
                 have hd0_2_1 := row2_1 (rowIs_below xB2.out ua0.out xB2.out.lt)
                 have hd0_3_0 := (rowIs_below xB3.out ua0.out xB3.out.lt).cell (i := 0) (by omega)
                 clear ry0 by_ by0 kb
                 have tk1 : True := trivial)
              | (clear tk1
                 go_at_call 18
                 refine (toInt_g A1 n1 c1 l1 _ (ha1.out.up' (u.out.trans (ua0.out.mono u.out.size))) hm1).mono ?_
                 rintro e wy1 ⟨gy1, rfl, ry1, by0, dy1, fy1⟩
                 have by_ := by0
                 try replace zb := Lib.hid (rowIs_below zb.out by_ zb.out.lt)
                 have y1 := Lib.hid ry1
                 replace y0 := Lib.hid (rowIs_below y0.out by_ y0.out.lt)
                 have ua1 := Lib.hid (ua0.out.trans (by_.mono ua0.out.size))
                 have hd1_2_0 := row2_0 (rowIs_below xB2.out ua1.out xB2.out.lt)
                 have hd1_2_1 := row2_1 (rowIs_below xB2.out ua1.out xB2.out.lt)
                 have hd1_3_0 := (rowIs_below xB3.out ua1.out xB3.out.lt).cell (i := 0) (by omega)
                 have he1_2_0 := row2_0 (rowIs_below (rowIs_below xB2.out ua1.out xB2.out.lt) (bx_below wy1 (.cells #[.slice none 0 0, .slice none 0 0] 63)) (rowIs_below xB2.out ua1.out xB2.out.lt).lt)
                 have he1_2_1 := row2_1 (rowIs_below (rowIs_below xB2.out ua1.out xB2.out.lt) (bx_below wy1 (.cells #[.slice none 0 0, .slice none 0 0] 63)) (rowIs_below xB2.out ua1.out xB2.out.lt).lt)
                 have he1_3_0 := (rowIs_below (rowIs_below xB3.out ua1.out xB3.out.lt) (bx_below wy1 (.cells #[.slice none 0 0, .slice none 0 0] 63)) (rowIs_below xB3.out ua1.out xB3.out.lt).lt).cell (i := 0) (by omega)
                 clear ry1 by_ by0
                 have tk2 : True := trivial)
              | (clear tk1
                 go_at_call 18
                 have kb := bx_below wy0 (.cells #[.slice none 0 0, .slice none 0 0] 63)
                 refine (toInt_g A1 n1 c1 l1 _ (ha1.out.up' ((u.out.trans (ua0.out.mono u.out.size)).trans (kb.mono (u.out.trans (ua0.out.mono u.out.size)).size))) hm1).mono ?_
                 rintro e wy1 ⟨gy1, rfl, ry1, by0, dy1, fy1⟩
                 have zb := Lib.hid (show wy1.rowIs wy0.heap.size 63 2 (fn2 (.slice none 0 0) (.slice none 0 0)) from rowIs_below (bx_row2 wy0 (.slice none 0 0) (.slice none 0 0) 63) by0 (by simp))
                 have lz := Lib.hid (show w4z.heap.size ≤ wy0.heap.size from ua0.out.size)
                 have by_ := kb.trans (by0.mono kb.size)
                 have y1 := Lib.hid ry1
                 replace y0 := Lib.hid (rowIs_below y0.out by_ y0.out.lt)
                 have ua1 := Lib.hid (ua0.out.trans (by_.mono ua0.out.size))
                 have hd1_2_0 := row2_0 (rowIs_below xB2.out ua1.out xB2.out.lt)
                 have hd1_2_1 := row2_1 (rowIs_below xB2.out ua1.out xB2.out.lt)
                 have hd1_3_0 := (rowIs_below xB3.out ua1.out xB3.out.lt).cell (i := 0) (by omega)
                 clear ry1 by_ by0 kb
                 have tk2 : True := trivial)
              | (clear tk2
                 go_at_call 39
                 refine (toView_g A2 n2 c2 l2 A3 n3 c3 l3 _ (ha2.out.up (u.out.trans (ua1.out.mono u.out.size))) (ha3.out.up (u.out.trans (ua1.out.mono u.out.size))) hm2 hm3).mono ?_
                 rintro e wy2 ⟨gy2, gy3, rfl, ry2, ry3, by0, dy2, fy2, fy3⟩
                 have by_ := by0
                 try replace zb := Lib.hid (rowIs_below zb.out by_ zb.out.lt)
                 have y2 := Lib.hid ry2
                 have y3 := Lib.hid ry3
                 replace y0 := Lib.hid (rowIs_below y0.out by_ y0.out.lt)
                 replace y1 := Lib.hid (rowIs_below y1.out by_ y1.out.lt)
                 have ua2 := Lib.hid (ua1.out.trans (by_.mono ua1.out.size))
                 have hd2_2_0 := row2_0 (rowIs_below xB2.out ua2.out xB2.out.lt)
                 have hd2_2_1 := row2_1 (rowIs_below xB2.out ua2.out xB2.out.lt)
                 have hd2_3_0 := (rowIs_below xB3.out ua2.out xB3.out.lt).cell (i := 0) (by omega)
                 have he2_2_0 := row2_0 (rowIs_below (rowIs_below xB2.out ua2.out xB2.out.lt) (bx_below wy2 (.cells #[.slice none 0 0, .slice none 0 0] 63)) (rowIs_below xB2.out ua2.out xB2.out.lt).lt)
                 have he2_2_1 := row2_1 (rowIs_below (rowIs_below xB2.out ua2.out xB2.out.lt) (bx_below wy2 (.cells #[.slice none 0 0, .slice none 0 0] 63)) (rowIs_below xB2.out ua2.out xB2.out.lt).lt)
                 have he2_3_0 := (rowIs_below (rowIs_below xB3.out ua2.out xB3.out.lt) (bx_below wy2 (.cells #[.slice none 0 0, .slice none 0 0] 63)) (rowIs_below xB3.out ua2.out xB3.out.lt).lt).cell (i := 0) (by omega)
                 clear ry2 ry3 by_ by0
                 have tk3 : True := trivial)
              | (clear tk2
                 go_at_call 39
                 have kb := bx_below wy1 (.cells #[.slice none 0 0, .slice none 0 0] 63)
                 refine (toView_g A2 n2 c2 l2 A3 n3 c3 l3 _ (ha2.out.up ((u.out.trans (ua1.out.mono u.out.size)).trans (kb.mono (u.out.trans (ua1.out.mono u.out.size)).size))) (ha3.out.up ((u.out.trans (ua1.out.mono u.out.size)).trans (kb.mono (u.out.trans (ua1.out.mono u.out.size)).size))) hm2 hm3).mono ?_
                 rintro e wy2 ⟨gy2, gy3, rfl, ry2, ry3, by0, dy2, fy2, fy3⟩
                 have zb := Lib.hid (show wy2.rowIs wy1.heap.size 63 2 (fn2 (.slice none 0 0) (.slice none 0 0)) from rowIs_below (bx_row2 wy1 (.slice none 0 0) (.slice none 0 0) 63) by0 (by simp))
                 have lz := Lib.hid (show w4z.heap.size ≤ wy1.heap.size from ua1.out.size)
                 have by_ := kb.trans (by0.mono kb.size)
                 have y2 := Lib.hid ry2
                 have y3 := Lib.hid ry3
                 replace y0 := Lib.hid (rowIs_below y0.out by_ y0.out.lt)
                 replace y1 := Lib.hid (rowIs_below y1.out by_ y1.out.lt)
                 have ua2 := Lib.hid (ua1.out.trans (by_.mono ua1.out.size))
                 have hd2_2_0 := row2_0 (rowIs_below xB2.out ua2.out xB2.out.lt)
                 have hd2_2_1 := row2_1 (rowIs_below xB2.out ua2.out xB2.out.lt)
                 have hd2_3_0 := (rowIs_below xB3.out ua2.out xB3.out.lt).cell (i := 0) (by omega)
                 clear ry2 ry3 by_ by0 kb
                 have tk3 : True := trivial)
              | (clear tk3
                 go_at_call 32
                 refine (toPool_g A4 n4 c4 l4 _ (ha4.out.up (u.out.trans (ua2.out.mono u.out.size))) hm4).mono ?_
                 rintro e wy3 ⟨gy4, rfl, ry4, by0, dy4, fy4⟩
                 have by_ := by0
                 try replace zb := Lib.hid (rowIs_below zb.out by_ zb.out.lt)
                 have y4 := Lib.hid ry4
                 replace y0 := Lib.hid (rowIs_below y0.out by_ y0.out.lt)
                 replace y1 := Lib.hid (rowIs_below y1.out by_ y1.out.lt)
                 replace y2 := Lib.hid (rowIs_below y2.out by_ y2.out.lt)
                 replace y3 := Lib.hid (rowIs_below y3.out by_ y3.out.lt)
                 have ua3 := Lib.hid (ua2.out.trans (by_.mono ua2.out.size))
                 have hd3_2_0 := row2_0 (rowIs_below xB2.out ua3.out xB2.out.lt)
                 have hd3_2_1 := row2_1 (rowIs_below xB2.out ua3.out xB2.out.lt)
                 have hd3_3_0 := (rowIs_below xB3.out ua3.out xB3.out.lt).cell (i := 0) (by omega)
                 have he3_2_0 := row2_0 (rowIs_below (rowIs_below xB2.out ua3.out xB2.out.lt) (bx_below wy3 (.cells #[.slice none 0 0, .slice none 0 0] 63)) (rowIs_below xB2.out ua3.out xB2.out.lt).lt)
                 have he3_2_1 := row2_1 (rowIs_below (rowIs_below xB2.out ua3.out xB2.out.lt) (bx_below wy3 (.cells #[.slice none 0 0, .slice none 0 0] 63)) (rowIs_below xB2.out ua3.out xB2.out.lt).lt)
                 have he3_3_0 := (rowIs_below (rowIs_below xB3.out ua3.out xB3.out.lt) (bx_below wy3 (.cells #[.slice none 0 0, .slice none 0 0] 63)) (rowIs_below xB3.out ua3.out xB3.out.lt).lt).cell (i := 0) (by omega)
                 clear ry4 by_ by0
                 have tk4 : True := trivial)
              | (clear tk3
                 go_at_call 32
                 have kb := bx_below wy2 (.cells #[.slice none 0 0, .slice none 0 0] 63)
                 refine (toPool_g A4 n4 c4 l4 _ (ha4.out.up ((u.out.trans (ua2.out.mono u.out.size)).trans (kb.mono (u.out.trans (ua2.out.mono u.out.size)).size))) hm4).mono ?_
                 rintro e wy3 ⟨gy4, rfl, ry4, by0, dy4, fy4⟩
                 have zb := Lib.hid (show wy3.rowIs wy2.heap.size 63 2 (fn2 (.slice none 0 0) (.slice none 0 0)) from rowIs_below (bx_row2 wy2 (.slice none 0 0) (.slice none 0 0) 63) by0 (by simp))
                 have lz := Lib.hid (show w4z.heap.size ≤ wy2.heap.size from ua2.out.size)
                 have by_ := kb.trans (by0.mono kb.size)
                 have y4 := Lib.hid ry4
                 replace y0 := Lib.hid (rowIs_below y0.out by_ y0.out.lt)
                 replace y1 := Lib.hid (rowIs_below y1.out by_ y1.out.lt)
                 replace y2 := Lib.hid (rowIs_below y2.out by_ y2.out.lt)
                 replace y3 := Lib.hid (rowIs_below y3.out by_ y3.out.lt)
                 have ua3 := Lib.hid (ua2.out.trans (by_.mono ua2.out.size))
                 have hd3_2_0 := row2_0 (rowIs_below xB2.out ua3.out xB2.out.lt)
                 have hd3_2_1 := row2_1 (rowIs_below xB2.out ua3.out xB2.out.lt)
                 have hd3_3_0 := (rowIs_below xB3.out ua3.out xB3.out.lt).cell (i := 0) (by omega)
                 clear ry4 by_ by0 kb
                 have tk4 : True := trivial)
              | (clear tk4
                 go_at_call 48
                 refine (specMergeView_any _ n0 _ l0 _ n1 _ l1 _ n2 _ l2 _ n3 _ l3 _ n4 _ l4 _ (row_blks' le0.out y0.out) (row_ints le1.out y1.out) (row_votesB le2.out y2.out) (row_votesB le3.out y3.out) (row_votesB le4.out y4.out) hm0 hm1 hm2 hm3 hm4 (Nat.le_refl _) (fun e => by cases e) (Nat.le_refl _) (fun e => by cases e) (Nat.le_refl _) (fun e => by cases e)).mono ?_
                 rintro e we ⟨AX, nX, cX, AY, nY, cY, rfl, oe, oe2, hap, be⟩
                 try have gz := Lib.hid zb.out.lt
                 try replace zb := Lib.hid (rowIs_below zb.out be zb.out.lt)
                 have hB := Lib.hid ua3.out.size
                 try have hzb0 := row2_0 (zb.out)
                 try have hzf0 := zb.out.frozen 0
                 try have hzb1 := row2_1 (zb.out)
                 try have hzf1 := zb.out.frozen 1
                 have ye := Lib.hid oe
                 have ye2 := Lib.hid oe2
                 have yap := Lib.hid hap
                 have ue := Lib.hid (ua3.out.trans (be.mono ua3.out.size))
                 have hw_2_0 := row2_0 (rowIs_below xB2.out ue.out xB2.out.lt)
                 have hw_2_1 := row2_1 (rowIs_below xB2.out ue.out xB2.out.lt)
                 have hv_2_0 := row2_0 (rowIs_below (rowIs_below xB2.out ue.out xB2.out.lt) (bx_below we (.cells #[.slice AX nX cX, .slice AY nY cY] 63)) (rowIs_below xB2.out ue.out xB2.out.lt).lt)
                 have hv_2_1 := row2_1 (rowIs_below (rowIs_below xB2.out ue.out xB2.out.lt) (bx_below we (.cells #[.slice AX nX cX, .slice AY nY cY] 63)) (rowIs_below xB2.out ue.out xB2.out.lt).lt)
                 have hu_2_0 := row2_0 (rowIs_below (rowIs_below xB2.out ue.out xB2.out.lt) (bx_below we (.cells #[.slice none 0 0, .slice none 0 0] 63)) (rowIs_below xB2.out ue.out xB2.out.lt).lt)
                 have hu_2_1 := row2_1 (rowIs_below (rowIs_below xB2.out ue.out xB2.out.lt) (bx_below we (.cells #[.slice none 0 0, .slice none 0 0] 63)) (rowIs_below xB2.out ue.out xB2.out.lt).lt)
                 try have hs_2_0 := row2_0 (keep_set2 zb.out (rowIs_below xB2.out ue.out xB2.out.lt) (Nat.lt_of_lt_of_le xB2.out.lt lz.out) (.slice AX nX cX) (.slice AY nY cY))
                 try have hs_2_1 := row2_1 (keep_set2 zb.out (rowIs_below xB2.out ue.out xB2.out.lt) (Nat.lt_of_lt_of_le xB2.out.lt lz.out) (.slice AX nX cX) (.slice AY nY cY))
                 have hw_3_0 := (rowIs_below xB3.out ue.out xB3.out.lt).cell (i := 0) (by omega)
                 have hv_3_0 := (rowIs_below (rowIs_below xB3.out ue.out xB3.out.lt) (bx_below we (.cells #[.slice AX nX cX, .slice AY nY cY] 63)) (rowIs_below xB3.out ue.out xB3.out.lt).lt).cell (i := 0) (by omega)
                 have hu_3_0 := (rowIs_below (rowIs_below xB3.out ue.out xB3.out.lt) (bx_below we (.cells #[.slice none 0 0, .slice none 0 0] 63)) (rowIs_below xB3.out ue.out xB3.out.lt).lt).cell (i := 0) (by omega)
                 try have hs_3_0 := (keep_set2 zb.out (rowIs_below xB3.out ue.out xB3.out.lt) (Nat.lt_of_lt_of_le xB3.out.lt lz.out) (.slice AX nX cX) (.slice AY nY cY)).cell (i := 0) (by omega)
                 clear be oe oe2 hap)
              | (clear tk4
                 go_at_call 48
                 have kb := bx_below wy3 (.cells #[.slice none 0 0, .slice none 0 0] 63)
                 refine (specMergeView_any _ n0 _ l0 _ n1 _ l1 _ n2 _ l2 _ n3 _ l3 _ n4 _ l4 _ (row_blks' le0.out (rowIs_below y0.out kb y0.out.lt)) (row_ints le1.out (rowIs_below y1.out kb y1.out.lt)) (row_votesB le2.out (rowIs_below y2.out kb y2.out.lt)) (row_votesB le3.out (rowIs_below y3.out kb y3.out.lt)) (row_votesB le4.out (rowIs_below y4.out kb y4.out.lt)) hm0 hm1 hm2 hm3 hm4 (Nat.le_refl _) (fun e => by cases e) (Nat.le_refl _) (fun e => by cases e) (Nat.le_refl _) (fun e => by cases e)).mono ?_
                 rintro e we ⟨AX, nX, cX, AY, nY, cY, rfl, oe, oe2, hap, be⟩
                 have zb := Lib.hid (rowIs_below (bx_row2 wy3 (.slice none 0 0) (.slice none 0 0) 63) be (by simp))
                 have lz := Lib.hid (show w4z.heap.size ≤ wy3.heap.size from ua3.out.size)
                 have gz := Lib.hid (show wy3.heap.size < (wy3.alloc (.cells #[.slice none 0 0, .slice none 0 0] 63)).heap.size by simp)
                 have hB := Lib.hid (Nat.le_trans ua3.out.size kb.size)
                 have hzb0 := row2_0 (zb.out)
                 have hzf0 := zb.out.frozen 0
                 have hzb1 := row2_1 (zb.out)
                 have hzf1 := zb.out.frozen 1
                 have ye := Lib.hid oe
                 have ye2 := Lib.hid oe2
                 have yap := Lib.hid hap
                 have ue := Lib.hid (ua3.out.trans ((kb.trans (be.mono kb.size)).mono ua3.out.size))
                 have hw_2_0 := row2_0 (rowIs_below xB2.out ue.out xB2.out.lt)
                 have hw_2_1 := row2_1 (rowIs_below xB2.out ue.out xB2.out.lt)
                 have hv_2_0 := row2_0 (rowIs_below (rowIs_below xB2.out ue.out xB2.out.lt) (bx_below we (.cells #[.slice AX nX cX, .slice AY nY cY] 63)) (rowIs_below xB2.out ue.out xB2.out.lt).lt)
                 have hv_2_1 := row2_1 (rowIs_below (rowIs_below xB2.out ue.out xB2.out.lt) (bx_below we (.cells #[.slice AX nX cX, .slice AY nY cY] 63)) (rowIs_below xB2.out ue.out xB2.out.lt).lt)
                 have hu_2_0 := row2_0 (rowIs_below (rowIs_below xB2.out ue.out xB2.out.lt) (bx_below we (.cells #[.slice none 0 0, .slice none 0 0] 63)) (rowIs_below xB2.out ue.out xB2.out.lt).lt)
                 have hu_2_1 := row2_1 (rowIs_below (rowIs_below xB2.out ue.out xB2.out.lt) (bx_below we (.cells #[.slice none 0 0, .slice none 0 0] 63)) (rowIs_below xB2.out ue.out xB2.out.lt).lt)
                 have hs_2_0 := row2_0 (keep_set2 zb.out (rowIs_below xB2.out ue.out xB2.out.lt) (Nat.lt_of_lt_of_le xB2.out.lt lz.out) (.slice AX nX cX) (.slice AY nY cY))
                 have hs_2_1 := row2_1 (keep_set2 zb.out (rowIs_below xB2.out ue.out xB2.out.lt) (Nat.lt_of_lt_of_le xB2.out.lt lz.out) (.slice AX nX cX) (.slice AY nY cY))
                 have hw_3_0 := (rowIs_below xB3.out ue.out xB3.out.lt).cell (i := 0) (by omega)
                 have hv_3_0 := (rowIs_below (rowIs_below xB3.out ue.out xB3.out.lt) (bx_below we (.cells #[.slice AX nX cX, .slice AY nY cY] 63)) (rowIs_below xB3.out ue.out xB3.out.lt).lt).cell (i := 0) (by omega)
                 have hu_3_0 := (rowIs_below (rowIs_below xB3.out ue.out xB3.out.lt) (bx_below we (.cells #[.slice none 0 0, .slice none 0 0] 63)) (rowIs_below xB3.out ue.out xB3.out.lt).lt).cell (i := 0) (by omega)
                 have hs_3_0 := (keep_set2 zb.out (rowIs_below xB3.out ue.out xB3.out.lt) (Nat.lt_of_lt_of_le xB3.out.lt lz.out) (.slice AX nX cX) (.slice AY nY cY)).cell (i := 0) (by omega)
                 clear be oe oe2 hap kb))
            all_goals
              go_wp2_with fail
              go_meet
              case rel => first
                | exact ⟨_, _, _, _, _, _, _, rfl, rfl, Lib.hid ((ye.out.below (bx_below we _)).fewer hB.out), Lib.hid ((ye2.out.below (bx_below we _)).fewer hB.out), yap, Lib.hid (bx_row2 we _ _ _), Lib.hid ue.out.size, Lib.hid (ue.out.trans ((bx_below we _).mono ue.out.size))⟩
                | exact ⟨_, _, _, _, _, _, _, rfl, rfl, Lib.hid ((ye.out.setBox2 gz.out _ _).fewer hB.out), Lib.hid ((ye2.out.setBox2 gz.out _ _).fewer hB.out), yap, Lib.hid (row2_set zb.out _ _), Lib.hid lz.out, Lib.hid ((ue.out.setCell (p := ⟨_, 0, none⟩) lz.out _).setCell (p := ⟨_, 1, none⟩) lz.out _)⟩
          case rest =>
            obtain ⟨AM, nM, cM, AN, nN, cN, gMB, rfl, rfl, yAM, yAN, apAM, xgMB, lgMB, k5⟩ := hcut
            skip
            have k6 := k5.out
            clear k5
            clear hcB2_0 hcB2_1 hcB3_0
            have hnM : nM ≤ 100 := by rw [← yAM.out.len]; exact hlen0.out
            have lo_yAM := Lib.hid (fun ad (e : AM = some ad) => Nat.le_trans sz.out (yAM.out.low ad e).1)
            have hi_yAM := Lib.hid (fun ad (e : AM = some ad) => (yAM.out.low ad e).2)
            have hnN : nN ≤ 100 := by rw [← yAN.out.len]; exact hlen1.out
            have lo_yAN := Lib.hid (fun ad (e : AN = some ad) => Nat.le_trans sz.out (yAN.out.low ad e).1)
            have hi_yAN := Lib.hid (fun ad (e : AN = some ad) => (yAN.out.low ad e).2)
            have mo_yAM := Lib.hid (Nat.le_trans sz.out k6.size)
            have lo_xgMB := Lib.hid (Nat.le_trans sz.out lgMB.out)
            have hi_xgMB := Lib.hid xgMB.out.lt
            replace u := Lib.hid (u.out.trans (k6.mono u.out.size))
            replace sz := Lib.hid (Nat.le_trans sz.out k6.size)
            replace xB2 := Lib.hid (rowIs_below xB2.out k6 xB2.out.lt)
            replace xB3 := Lib.hid (rowIs_below xB3.out k6 xB3.out.lt)
            clear k6
            clear sz
            have sz := Lib.hid (Nat.le_refl wc.heap.size)
            go_wp2_with fail
            refine (toBlk_g A0 n0 c0 l0 _ (ha0.out.up u.out) hm0).mono ?_
            rintro e w6 ⟨g0, rfl, r0, b6, d0, f0⟩
            have x0 := Lib.hid r0; clear r0
            have lo_x0 := Lib.hid (Nat.le_trans sz.out d0); have hi_x0 := Lib.hid f0; clear d0 f0
            replace u := Lib.hid (u.out.trans (b6.mono u.out.size))
            replace sz := Lib.hid (Nat.le_trans sz.out b6.size)
            replace xB2 := Lib.hid (rowIs_below xB2.out b6 xB2.out.lt)
            replace xB3 := Lib.hid (rowIs_below xB3.out b6 xB3.out.lt)
            replace yAM := Lib.hid (yAM.out.below b6)
            replace yAN := Lib.hid (yAN.out.below b6)
            replace xgMB := Lib.hid (rowIs_below xgMB.out b6 xgMB.out.lt)
            clear b6
            clear sz
            have sz := Lib.hid (Nat.le_refl w6.heap.size)
            go_wp2_with fail
            refine (toInt_g A1 n1 c1 l1 _ (ha1.out.up' u.out) hm1).mono ?_
            rintro e w7 ⟨g1, rfl, r1, b7, d1, f1⟩
            have x1 := Lib.hid r1; clear r1
            have lo_x1 := Lib.hid (Nat.le_trans sz.out d1); have hi_x1 := Lib.hid f1; clear d1 f1
            replace u := Lib.hid (u.out.trans (b7.mono u.out.size))
            replace sz := Lib.hid (Nat.le_trans sz.out b7.size)
            replace xB2 := Lib.hid (rowIs_below xB2.out b7 xB2.out.lt)
            replace xB3 := Lib.hid (rowIs_below xB3.out b7 xB3.out.lt)
            replace yAM := Lib.hid (yAM.out.below b7)
            replace yAN := Lib.hid (yAN.out.below b7)
            replace xgMB := Lib.hid (rowIs_below xgMB.out b7 xgMB.out.lt)
            replace x0 := Lib.hid (rowIs_below x0.out b7 x0.out.lt)
            clear b7
            clear sz
            have sz := Lib.hid (Nat.le_refl w7.heap.size)
            have hcB2_0 := row2_0 (xB2.out)
            have hcB2_1 := row2_1 (xB2.out)
            go_wp2_with fail
            refine (toView_g A2 n2 c2 l2 A3 n3 c3 l3 _ (ha2.out.up u.out) (ha3.out.up u.out) hm2 hm3).mono ?_
            rintro e w8 ⟨g2, g3, rfl, r2, r3, b8, d2, f2, f3⟩
            clear hcB2_0 hcB2_1
            have x2 := Lib.hid r2; clear r2
            have x3 := Lib.hid r3; clear r3
            have lo_x2 := Lib.hid (Nat.le_trans sz.out d2); have hi_x2 := Lib.hid (Nat.lt_succ_self g2)
            have lo_x3 := Lib.hid (Nat.succ_le_of_lt f2); have hi_x3 := Lib.hid f3; clear d2 f2 f3
            replace u := Lib.hid (u.out.trans (b8.mono u.out.size))
            replace sz := Lib.hid (Nat.le_trans sz.out b8.size)
            replace xB2 := Lib.hid (rowIs_below xB2.out b8 xB2.out.lt)
            replace xB3 := Lib.hid (rowIs_below xB3.out b8 xB3.out.lt)
            replace yAM := Lib.hid (yAM.out.below b8)
            replace yAN := Lib.hid (yAN.out.below b8)
            replace xgMB := Lib.hid (rowIs_below xgMB.out b8 xgMB.out.lt)
            replace x0 := Lib.hid (rowIs_below x0.out b8 x0.out.lt)
            replace x1 := Lib.hid (rowIs_below x1.out b8 x1.out.lt)
            clear b8
            clear sz
            have sz := Lib.hid (Nat.le_refl w8.heap.size)
            have xb2 := Lib.hid (bx_row2 w8 (.slice (some ⟨g2, 0, none⟩) n2 n2) (.slice (some ⟨g3, 0, none⟩) n3 n3) 63)
            have kk : Below w8.heap.size w8 (w8.alloc (.cells #[.slice (some ⟨g2, 0, none⟩) n2 n2, .slice (some ⟨g3, 0, none⟩) n3 n3] 63)) := bx_below w8 _
            have lo_xb2 := Lib.hid (Nat.le_refl w8.heap.size); have hi_xb2 := Lib.hid (Nat.lt_succ_self w8.heap.size)
            replace u := Lib.hid (u.out.trans (kk.mono u.out.size))
            replace sz := Lib.hid (Nat.le_trans sz.out kk.size)
            replace xB2 := Lib.hid (rowIs_below xB2.out kk xB2.out.lt)
            replace xB3 := Lib.hid (rowIs_below xB3.out kk xB3.out.lt)
            replace yAM := Lib.hid (yAM.out.below kk)
            replace yAN := Lib.hid (yAN.out.below kk)
            replace xgMB := Lib.hid (rowIs_below xgMB.out kk xgMB.out.lt)
            replace x0 := Lib.hid (rowIs_below x0.out kk x0.out.lt)
            replace x1 := Lib.hid (rowIs_below x1.out kk x1.out.lt)
            replace x2 := Lib.hid (rowIs_below x2.out kk x2.out.lt)
            replace x3 := Lib.hid (rowIs_below x3.out kk x3.out.lt)
            clear kk
            clear sz
            have sz := Lib.hid (show w8.heap.size + 1 ≤ (w8.alloc (.cells #[.slice (some ⟨g2, 0, none⟩) n2 n2, .slice (some ⟨g3, 0, none⟩) n3 n3] 63)).heap.size by simp)
            have hcB3_0 := (xB3.out).cell (i := 0) (by omega)
            go_wp2_with fail
            refine (toPool_g A4 n4 c4 l4 _ (ha4.out.up u.out) hm4).mono ?_
            rintro e w9 ⟨g4, rfl, r4, b9, d4, f4⟩
            clear hcB3_0
            have x4 := Lib.hid r4; clear r4
            have lo_x4 := Lib.hid (Nat.le_trans sz.out d4); have hi_x4 := Lib.hid f4; clear d4 f4
            replace u := Lib.hid (u.out.trans (b9.mono u.out.size))
            replace sz := Lib.hid (Nat.le_trans sz.out b9.size)
            replace xB2 := Lib.hid (rowIs_below xB2.out b9 xB2.out.lt)
            replace xB3 := Lib.hid (rowIs_below xB3.out b9 xB3.out.lt)
            replace yAM := Lib.hid (yAM.out.below b9)
            replace yAN := Lib.hid (yAN.out.below b9)
            replace xgMB := Lib.hid (rowIs_below xgMB.out b9 xgMB.out.lt)
            replace x0 := Lib.hid (rowIs_below x0.out b9 x0.out.lt)
            replace x1 := Lib.hid (rowIs_below x1.out b9 x1.out.lt)
            replace x2 := Lib.hid (rowIs_below x2.out b9 x2.out.lt)
            replace x3 := Lib.hid (rowIs_below x3.out b9 x3.out.lt)
            replace xb2 := Lib.hid (rowIs_below xb2.out b9 xb2.out.lt)
            clear b9
            clear sz
            have sz := Lib.hid (Nat.le_refl w9.heap.size)
            have xb3 := Lib.hid (bx_row w9 (.slice (some ⟨g4, 0, none⟩) n4 n4) 29)
            have kk : Below w9.heap.size w9 (w9.alloc (.cells #[.slice (some ⟨g4, 0, none⟩) n4 n4] 29)) := bx_below w9 _
            have lo_xb3 := Lib.hid (Nat.le_refl w9.heap.size); have hi_xb3 := Lib.hid (Nat.lt_succ_self w9.heap.size)
            replace u := Lib.hid (u.out.trans (kk.mono u.out.size))
            replace sz := Lib.hid (Nat.le_trans sz.out kk.size)
            replace xB2 := Lib.hid (rowIs_below xB2.out kk xB2.out.lt)
            replace xB3 := Lib.hid (rowIs_below xB3.out kk xB3.out.lt)
            replace yAM := Lib.hid (yAM.out.below kk)
            replace yAN := Lib.hid (yAN.out.below kk)
            replace xgMB := Lib.hid (rowIs_below xgMB.out kk xgMB.out.lt)
            replace x0 := Lib.hid (rowIs_below x0.out kk x0.out.lt)
            replace x1 := Lib.hid (rowIs_below x1.out kk x1.out.lt)
            replace x2 := Lib.hid (rowIs_below x2.out kk x2.out.lt)
            replace x3 := Lib.hid (rowIs_below x3.out kk x3.out.lt)
            replace xb2 := Lib.hid (rowIs_below xb2.out kk xb2.out.lt)
            replace x4 := Lib.hid (rowIs_below x4.out kk x4.out.lt)
            clear kk
            clear sz
            have sz := Lib.hid (show w9.heap.size + 1 ≤ (w9.alloc (.cells #[.slice (some ⟨g4, 0, none⟩) n4 n4] 29)).heap.size by simp)
            have hcX2_0 := row2_0 (xb2.out)
            have hcX2_1 := row2_1 (xb2.out)
            have hcX3_0 := (xb3.out).cell (i := 0) (by omega)
            go_wp2_with fail
            refine (implMergeView_any _ n0 _ l0 _ n1 _ l1 _ n2 _ l2 _ n3 _ l3 _ n4 _ l4 _ (row_blks' le0.out x0.out) (row_ints le1.out x1.out) (row_votesB le2.out x2.out) (row_votesB le3.out x3.out) (row_votesB le4.out x4.out) hm0 hm1 hm2 hm3 hm4 (Nat.le_refl _) (fun e => by cases e) (Nat.le_refl _) (fun e => by cases e) (Nat.le_refl _) (fun e => by cases e)).mono ?_
            rintro e w10 ⟨AP, nP, cP, AQ, nQ, cQ, rfl, oAP, oAQ, hapP, b10⟩
            have hnP : nP ≤ 100 := by rw [← oAP.len]; exact hlen0.out
            have lo_yAP := Lib.hid (fun ad (e : AP = some ad) => Nat.le_trans sz.out (oAP.low ad e).1)
            have hi_yAP := Lib.hid (fun ad (e : AP = some ad) => (oAP.low ad e).2)
            have hnQ : nQ ≤ 100 := by rw [← oAQ.len]; exact hlen1.out
            have lo_yAQ := Lib.hid (fun ad (e : AQ = some ad) => Nat.le_trans sz.out (oAQ.low ad e).1)
            have hi_yAQ := Lib.hid (fun ad (e : AQ = some ad) => (oAQ.low ad e).2)
            have mo_yAP := Lib.hid (Nat.le_trans sz.out b10.size)
            have yAP := Lib.hid oAP; clear oAP
            have yAQ := Lib.hid oAQ; clear oAQ
            have apP := Lib.hid hapP; clear hapP
            clear hcX2_0 hcX2_1 hcX3_0
            replace u := Lib.hid (u.out.trans (b10.mono u.out.size))
            replace sz := Lib.hid (Nat.le_trans sz.out b10.size)
            replace xB2 := Lib.hid (rowIs_below xB2.out b10 xB2.out.lt)
            replace xB3 := Lib.hid (rowIs_below xB3.out b10 xB3.out.lt)
            replace yAM := Lib.hid (yAM.out.below b10)
            replace yAN := Lib.hid (yAN.out.below b10)
            replace xgMB := Lib.hid (rowIs_below xgMB.out b10 xgMB.out.lt)
            replace x0 := Lib.hid (rowIs_below x0.out b10 x0.out.lt)
            replace x1 := Lib.hid (rowIs_below x1.out b10 x1.out.lt)
            replace x2 := Lib.hid (rowIs_below x2.out b10 x2.out.lt)
            replace x3 := Lib.hid (rowIs_below x3.out b10 x3.out.lt)
            replace xb2 := Lib.hid (rowIs_below xb2.out b10 xb2.out.lt)
            replace x4 := Lib.hid (rowIs_below x4.out b10 x4.out.lt)
            replace xb3 := Lib.hid (rowIs_below xb3.out b10 xb3.out.lt)
            clear b10
            clear sz
            have sz := Lib.hid (Nat.le_refl w10.heap.size)
            have xgPB := Lib.hid (bx_row2 w10 (.slice AP nP cP) (.slice AQ nQ cQ) 63)
            have kk : Below w10.heap.size w10 (w10.alloc (.cells #[.slice AP nP cP, .slice AQ nQ cQ] 63)) := bx_below w10 _
            have lo_xgPB := Lib.hid (Nat.le_refl w10.heap.size); have hi_xgPB := Lib.hid (Nat.lt_succ_self w10.heap.size)
            replace u := Lib.hid (u.out.trans (kk.mono u.out.size))
            replace sz := Lib.hid (Nat.le_trans sz.out kk.size)
            replace xB2 := Lib.hid (rowIs_below xB2.out kk xB2.out.lt)
            replace xB3 := Lib.hid (rowIs_below xB3.out kk xB3.out.lt)
            replace yAM := Lib.hid (yAM.out.below kk)
            replace yAN := Lib.hid (yAN.out.below kk)
            replace xgMB := Lib.hid (rowIs_below xgMB.out kk xgMB.out.lt)
            replace x0 := Lib.hid (rowIs_below x0.out kk x0.out.lt)
            replace x1 := Lib.hid (rowIs_below x1.out kk x1.out.lt)
            replace x2 := Lib.hid (rowIs_below x2.out kk x2.out.lt)
            replace x3 := Lib.hid (rowIs_below x3.out kk x3.out.lt)
            replace xb2 := Lib.hid (rowIs_below xb2.out kk xb2.out.lt)
            replace x4 := Lib.hid (rowIs_below x4.out kk x4.out.lt)
            replace xb3 := Lib.hid (rowIs_below xb3.out kk xb3.out.lt)
            replace yAP := Lib.hid (yAP.out.below kk)
            replace yAQ := Lib.hid (yAQ.out.below kk)
            clear kk
            clear sz
            have sz := Lib.hid (show w10.heap.size + 1 ≤ (w10.alloc (.cells #[.slice AP nP cP, .slice AQ nQ cQ] 63)).heap.size by simp)
            have hrgPB_0 := row2_0 (xgPB.out)
            have hrgPB_1 := row2_1 (xgPB.out)
            have hrgMB_0 := row2_0 (xgMB.out)
            have hrgMB_1 := row2_1 (xgMB.out)
            go_wp2_with fail
            refine (eqView_b AP AM nP nM cP cM _ AQ AN nQ nN cQ cN _ _ yAP.out.votes yAM.out.votes yAQ.out.votes yAN.out.votes (by omega) (by omega) (by omega) (by omega)).mono ?_
            rintro e w11 ⟨rfl, b11⟩
            clear hrgPB_0 hrgPB_1 hrgMB_0 hrgMB_1
            replace u := Lib.hid (u.out.trans (b11.mono u.out.size))
            replace sz := Lib.hid (Nat.le_trans sz.out b11.size)
            replace xB2 := Lib.hid (rowIs_below xB2.out b11 xB2.out.lt)
            replace xB3 := Lib.hid (rowIs_below xB3.out b11 xB3.out.lt)
            replace yAM := Lib.hid (yAM.out.below b11)
            replace yAN := Lib.hid (yAN.out.below b11)
            replace xgMB := Lib.hid (rowIs_below xgMB.out b11 xgMB.out.lt)
            replace x0 := Lib.hid (rowIs_below x0.out b11 x0.out.lt)
            replace x1 := Lib.hid (rowIs_below x1.out b11 x1.out.lt)
            replace x2 := Lib.hid (rowIs_below x2.out b11 x2.out.lt)
            replace x3 := Lib.hid (rowIs_below x3.out b11 x3.out.lt)
            replace xb2 := Lib.hid (rowIs_below xb2.out b11 xb2.out.lt)
            replace x4 := Lib.hid (rowIs_below x4.out b11 x4.out.lt)
            replace xb3 := Lib.hid (rowIs_below xb3.out b11 xb3.out.lt)
            replace yAP := Lib.hid (yAP.out.below b11)
            replace yAQ := Lib.hid (yAQ.out.below b11)
            replace xgPB := Lib.hid (rowIs_below xgPB.out b11 xgPB.out.lt)
            clear b11
            go_wp2_with fail
            refine (toBlk_g A0 n0 c0 l0 _ (ha0.out.up u.out) hm0).mono ?_
            rintro e w12 ⟨gZ, rfl, rZ, b12, _, _⟩
            have xZ := Lib.hid rZ; clear rZ
            replace u := Lib.hid (u.out.trans (b12.mono u.out.size))
            replace sz := Lib.hid (Nat.le_trans sz.out b12.size)
            replace xB2 := Lib.hid (rowIs_below xB2.out b12 xB2.out.lt)
            replace xB3 := Lib.hid (rowIs_below xB3.out b12 xB3.out.lt)
            replace yAM := Lib.hid (yAM.out.below b12)
            replace yAN := Lib.hid (yAN.out.below b12)
            replace xgMB := Lib.hid (rowIs_below xgMB.out b12 xgMB.out.lt)
            replace x0 := Lib.hid (rowIs_below x0.out b12 x0.out.lt)
            replace x1 := Lib.hid (rowIs_below x1.out b12 x1.out.lt)
            replace x2 := Lib.hid (rowIs_below x2.out b12 x2.out.lt)
            replace x3 := Lib.hid (rowIs_below x3.out b12 x3.out.lt)
            replace xb2 := Lib.hid (rowIs_below xb2.out b12 xb2.out.lt)
            replace x4 := Lib.hid (rowIs_below x4.out b12 x4.out.lt)
            replace xb3 := Lib.hid (rowIs_below xb3.out b12 xb3.out.lt)
            replace yAP := Lib.hid (yAP.out.below b12)
            replace yAQ := Lib.hid (yAQ.out.below b12)
            replace xgPB := Lib.hid (rowIs_below xgPB.out b12 xgPB.out.lt)
            clear b12
            go_wp2_with fail
            refine (eqBlk_b _ _ n0 n0 _ _ l0 _ (row_blks' le0.out x0.out) (row_blks' le0.out xZ.out) hm0 hm0).mono ?_
            rintro e w13 ⟨rfl, b13⟩
            replace u := Lib.hid (u.out.trans (b13.mono u.out.size))
            replace sz := Lib.hid (Nat.le_trans sz.out b13.size)
            replace xB2 := Lib.hid (rowIs_below xB2.out b13 xB2.out.lt)
            replace xB3 := Lib.hid (rowIs_below xB3.out b13 xB3.out.lt)
            replace yAM := Lib.hid (yAM.out.below b13)
            replace yAN := Lib.hid (yAN.out.below b13)
            replace xgMB := Lib.hid (rowIs_below xgMB.out b13 xgMB.out.lt)
            replace x0 := Lib.hid (rowIs_below x0.out b13 x0.out.lt)
            replace x1 := Lib.hid (rowIs_below x1.out b13 x1.out.lt)
            replace x2 := Lib.hid (rowIs_below x2.out b13 x2.out.lt)
            replace x3 := Lib.hid (rowIs_below x3.out b13 x3.out.lt)
            replace xb2 := Lib.hid (rowIs_below xb2.out b13 xb2.out.lt)
            replace x4 := Lib.hid (rowIs_below x4.out b13 x4.out.lt)
            replace xb3 := Lib.hid (rowIs_below xb3.out b13 xb3.out.lt)
            replace yAP := Lib.hid (yAP.out.below b13)
            replace yAQ := Lib.hid (yAQ.out.below b13)
            replace xgPB := Lib.hid (rowIs_below xgPB.out b13 xgPB.out.lt)
            replace xZ := Lib.hid (rowIs_below xZ.out b13 xZ.out.lt)
            clear b13
            clear xZ
            go_wp2_with fail
            refine (toInt_g A1 n1 c1 l1 _ (ha1.out.up' u.out) hm1).mono ?_
            rintro e w14 ⟨gZ, rfl, rZ, b14, _, _⟩
            have xZ := Lib.hid rZ; clear rZ
            replace u := Lib.hid (u.out.trans (b14.mono u.out.size))
            replace sz := Lib.hid (Nat.le_trans sz.out b14.size)
            replace xB2 := Lib.hid (rowIs_below xB2.out b14 xB2.out.lt)
            replace xB3 := Lib.hid (rowIs_below xB3.out b14 xB3.out.lt)
            replace yAM := Lib.hid (yAM.out.below b14)
            replace yAN := Lib.hid (yAN.out.below b14)
            replace xgMB := Lib.hid (rowIs_below xgMB.out b14 xgMB.out.lt)
            replace x0 := Lib.hid (rowIs_below x0.out b14 x0.out.lt)
            replace x1 := Lib.hid (rowIs_below x1.out b14 x1.out.lt)
            replace x2 := Lib.hid (rowIs_below x2.out b14 x2.out.lt)
            replace x3 := Lib.hid (rowIs_below x3.out b14 x3.out.lt)
            replace xb2 := Lib.hid (rowIs_below xb2.out b14 xb2.out.lt)
            replace x4 := Lib.hid (rowIs_below x4.out b14 x4.out.lt)
            replace xb3 := Lib.hid (rowIs_below xb3.out b14 xb3.out.lt)
            replace yAP := Lib.hid (yAP.out.below b14)
            replace yAQ := Lib.hid (yAQ.out.below b14)
            replace xgPB := Lib.hid (rowIs_below xgPB.out b14 xgPB.out.lt)
            clear b14
            go_wp2_with fail
            refine (eqInt_b _ _ n1 n1 _ _ l1 _ (row_ints le1.out x1.out) (row_ints le1.out xZ.out) hm1 hm1).mono ?_
            rintro e w15 ⟨rfl, b15⟩
            replace u := Lib.hid (u.out.trans (b15.mono u.out.size))
            replace sz := Lib.hid (Nat.le_trans sz.out b15.size)
            replace xB2 := Lib.hid (rowIs_below xB2.out b15 xB2.out.lt)
            replace xB3 := Lib.hid (rowIs_below xB3.out b15 xB3.out.lt)
            replace yAM := Lib.hid (yAM.out.below b15)
            replace yAN := Lib.hid (yAN.out.below b15)
            replace xgMB := Lib.hid (rowIs_below xgMB.out b15 xgMB.out.lt)
            replace x0 := Lib.hid (rowIs_below x0.out b15 x0.out.lt)
            replace x1 := Lib.hid (rowIs_below x1.out b15 x1.out.lt)
            replace x2 := Lib.hid (rowIs_below x2.out b15 x2.out.lt)
            replace x3 := Lib.hid (rowIs_below x3.out b15 x3.out.lt)
            replace xb2 := Lib.hid (rowIs_below xb2.out b15 xb2.out.lt)
            replace x4 := Lib.hid (rowIs_below x4.out b15 x4.out.lt)
            replace xb3 := Lib.hid (rowIs_below xb3.out b15 xb3.out.lt)
            replace yAP := Lib.hid (yAP.out.below b15)
            replace yAQ := Lib.hid (yAQ.out.below b15)
            replace xgPB := Lib.hid (rowIs_below xgPB.out b15 xgPB.out.lt)
            replace xZ := Lib.hid (rowIs_below xZ.out b15 xZ.out.lt)
            clear b15
            clear xZ
            have hcB2_0 := row2_0 (xB2.out)
            have hcB2_1 := row2_1 (xB2.out)
            have hcX2_0 := row2_0 (xb2.out)
            have hcX2_1 := row2_1 (xb2.out)
            have hT2 := Lib.hid (toView_g A2 n2 c2 l2 A3 n3 c3 l3 w15.drew (show VotesAt w15.drew w15.drew.heap.size A2 n2 l2 from ⟨(ha2.out.up u.out).1, (ha2.out.up u.out).2⟩) (show VotesAt w15.drew w15.drew.heap.size A3 n3 l3 from ⟨(ha3.out.up u.out).1, (ha3.out.up u.out).2⟩) hm2 hm3)
            go_upto_region 25 with fail
            go_cut [92] from 88 to 92 (fun s wx => s = .bool false ∧ Hid (Below w15.heap.size w15 wx))
            case first =>
              go_region_with (first
                | (go_at_call 39
                   refine hT2.out.mono ?_
                   rintro e wa ⟨ga2, ga3, rfl, ra2, ra3, ba, da2, fa2, fa3⟩
                   have xa2 := Lib.hid ra2
                   have xa3 := Lib.hid ra3
                   have ua := Lib.hid (show Below w15.heap.size w15 wa from ⟨ba.os, ba.tape, ba.output, ba.size, ba.block⟩)
                   have hd1_0 := row2_0 (rowIs_below xB2.out ua.out xB2.out.lt)
                   have hd1_1 := row2_1 (rowIs_below xB2.out ua.out xB2.out.lt)
                   have hd2_0 := row2_0 (rowIs_below xb2.out ua.out xb2.out.lt)
                   have hd2_1 := row2_1 (rowIs_below xb2.out ua.out xb2.out.lt)
                   have xR2 := Lib.hid (rowIs_below x2.out ua.out x2.out.lt)
                   have xR3 := Lib.hid (rowIs_below x3.out ua.out x3.out.lt)
                   clear ba ra2 ra3)
                | (go_at_call 41
                   refine (eqView_b _ _ n2 n2 n2 n2 l2 _ _ n3 n3 n3 n3 l3 _ (row_votesB le2.out xR2.out) (row_votesB le2.out xa2.out) (row_votesB le3.out xR3.out) (row_votesB le3.out xa3.out) hm2 hm2 hm3 hm3).mono ?_
                   rintro e wb ⟨rfl, bb⟩
                   have ub := Lib.hid (ua.out.trans (bb.mono ua.out.size))
                   clear bb))
              all_goals
                go_wp2_with fail
                go_meet
                case rel => exact ⟨rfl, ub⟩
            case rest =>
              obtain ⟨rfl, k6⟩ := hcut
              have k7 := k6.out
              clear k6 hT2 hcB2_0 hcB2_1 hcX2_0 hcX2_1
              replace u := Lib.hid (u.out.trans (k7.mono u.out.size))
              replace sz := Lib.hid (Nat.le_trans sz.out k7.size)
              replace xB2 := Lib.hid (rowIs_below xB2.out k7 xB2.out.lt)
              replace xB3 := Lib.hid (rowIs_below xB3.out k7 xB3.out.lt)
              replace yAM := Lib.hid (yAM.out.below k7)
              replace yAN := Lib.hid (yAN.out.below k7)
              replace xgMB := Lib.hid (rowIs_below xgMB.out k7 xgMB.out.lt)
              replace x0 := Lib.hid (rowIs_below x0.out k7 x0.out.lt)
              replace x1 := Lib.hid (rowIs_below x1.out k7 x1.out.lt)
              replace x2 := Lib.hid (rowIs_below x2.out k7 x2.out.lt)
              replace x3 := Lib.hid (rowIs_below x3.out k7 x3.out.lt)
              replace xb2 := Lib.hid (rowIs_below xb2.out k7 xb2.out.lt)
              replace x4 := Lib.hid (rowIs_below x4.out k7 x4.out.lt)
              replace xb3 := Lib.hid (rowIs_below xb3.out k7 xb3.out.lt)
              replace yAP := Lib.hid (yAP.out.below k7)
              replace yAQ := Lib.hid (yAQ.out.below k7)
              replace xgPB := Lib.hid (rowIs_below xgPB.out k7 xgPB.out.lt)
              clear k7
              have hcB3_0 := (xB3.out).cell (i := 0) (by omega)
              have hcX3_0 := (xb3.out).cell (i := 0) (by omega)
              have hT2 := Lib.hid (toPool_g A4 n4 c4 l4 wc.drew (show VotesAt wc.drew wc.drew.heap.size A4 n4 l4 from ⟨(ha4.out.up u.out).1, (ha4.out.up u.out).2⟩) hm4)
              go_upto_region 27 with fail
              go_cut [97] from 93 to 97 (fun s wx => s = .bool false ∧ Hid (Below wc.heap.size wc wx))
              case first =>
                go_region_with (first
                  | (go_at_call 32
                     refine hT2.out.mono ?_
                     rintro e wa ⟨ga4, rfl, ra4, ba, da4, fa4⟩
                     have xa4 := Lib.hid ra4
                     have ua := Lib.hid (show Below wc.heap.size wc wa from ⟨ba.os, ba.tape, ba.output, ba.size, ba.block⟩)
                     have hd1_0 := (rowIs_below xB3.out ua.out xB3.out.lt).cell (i := 0) (by omega)
                     have hd2_0 := (rowIs_below xb3.out ua.out xb3.out.lt).cell (i := 0) (by omega)
                     have xR4 := Lib.hid (rowIs_below x4.out ua.out x4.out.lt)
                     clear ba ra4)
                  | (go_at_call 21
                     refine (eqPool_b _ _ n4 n4 n4 n4 l4 _ (row_votesB le4.out xR4.out) (row_votesB le4.out xa4.out) hm4 hm4).mono ?_
                     rintro e wb ⟨rfl, bb⟩
                     have ub := Lib.hid (ua.out.trans (bb.mono ua.out.size))
                     clear bb))
                all_goals
                  go_wp2_with fail
                  go_meet
                  case rel => exact ⟨rfl, ub⟩
              case rest =>
                obtain ⟨rfl, k6⟩ := hcut
                have k7 := k6.out
                clear k6 hT2 hcB3_0 hcX3_0
                replace u := Lib.hid (u.out.trans (k7.mono u.out.size))
                replace sz := Lib.hid (Nat.le_trans sz.out k7.size)
                replace xB2 := Lib.hid (rowIs_below xB2.out k7 xB2.out.lt)
                replace xB3 := Lib.hid (rowIs_below xB3.out k7 xB3.out.lt)
                replace yAM := Lib.hid (yAM.out.below k7)
                replace yAN := Lib.hid (yAN.out.below k7)
                replace xgMB := Lib.hid (rowIs_below xgMB.out k7 xgMB.out.lt)
                replace x0 := Lib.hid (rowIs_below x0.out k7 x0.out.lt)
                replace x1 := Lib.hid (rowIs_below x1.out k7 x1.out.lt)
                replace x2 := Lib.hid (rowIs_below x2.out k7 x2.out.lt)
                replace x3 := Lib.hid (rowIs_below x3.out k7 x3.out.lt)
                replace xb2 := Lib.hid (rowIs_below xb2.out k7 xb2.out.lt)
                replace x4 := Lib.hid (rowIs_below x4.out k7 x4.out.lt)
                replace xb3 := Lib.hid (rowIs_below xb3.out k7 xb3.out.lt)
                replace yAP := Lib.hid (yAP.out.below k7)
                replace yAQ := Lib.hid (yAQ.out.below k7)
                replace xgPB := Lib.hid (rowIs_below xgPB.out k7 xgPB.out.lt)
                clear k7
                go_wp2_with fail
                refine (markBlk_b g0 n0 _ _ (1) _ x0.out hm0 (by omega) (by omega)).mono ?_
                rintro e w16 ⟨rfl, oo⟩
                have ok_ := oo.o
                clear oo
                replace u := Lib.hid (u.out.trans (ok_.below u.out.size (fun ad e => by cases e; have := lo_x0.out; have := hi_x0.out; have := lo_xB2.out; have := hi_xB2.out; have := lo_xB3.out; have := hi_xB3.out; have := mo_yAM.out; show w.heap.size ≤ g0; omega)))
                replace sz := Lib.hid (Nat.le_trans sz.out ok_.size)
                replace xB2 := Lib.hid (rowIs_o xB2.out ok_ (fun ad e => by cases e; have := lo_x0.out; have := hi_x0.out; have := lo_xB2.out; have := hi_xB2.out; have := lo_xB3.out; have := hi_xB3.out; have := mo_yAM.out; show w.heap.size ≠ g0; omega))
                replace xB3 := Lib.hid (rowIs_o xB3.out ok_ (fun ad e => by cases e; have := lo_x0.out; have := hi_x0.out; have := lo_xB3.out; have := hi_xB3.out; have := mo_yAM.out; show (w.heap.size + 1) ≠ g0; omega))
                replace yAM := Lib.hid (OwnV.o yAM.out ok_ (fun ad ad' e e' => by cases e'; have := lo_x0.out; have := hi_x0.out; have := lo_yAM.out ad e; have := hi_yAM.out ad e; show ad.block ≠ g0; omega))
                replace yAN := Lib.hid (OwnV.o yAN.out ok_ (fun ad ad' e e' => by cases e'; have := lo_x0.out; have := hi_x0.out; have := lo_yAN.out ad e; have := hi_yAN.out ad e; show ad.block ≠ g0; omega))
                replace xgMB := Lib.hid (rowIs_o xgMB.out ok_ (fun ad e => by cases e; have := lo_x0.out; have := hi_x0.out; have := lo_xgMB.out; have := hi_xgMB.out; show gMB ≠ g0; omega))
                replace x1 := Lib.hid (rowIs_o x1.out ok_ (fun ad e => by cases e; have := lo_x0.out; have := hi_x0.out; have := lo_x1.out; have := hi_x1.out; show g1 ≠ g0; omega))
                replace x2 := Lib.hid (rowIs_o x2.out ok_ (fun ad e => by cases e; have := lo_x0.out; have := hi_x0.out; have := lo_x2.out; have := hi_x2.out; have := lo_x1.out; have := hi_x1.out; show g2 ≠ g0; omega))
                replace x3 := Lib.hid (rowIs_o x3.out ok_ (fun ad e => by cases e; have := lo_x0.out; have := hi_x0.out; have := lo_x3.out; have := hi_x3.out; have := lo_x1.out; have := hi_x1.out; have := lo_x2.out; have := hi_x2.out; show g3 ≠ g0; omega))
                replace xb2 := Lib.hid (rowIs_o xb2.out ok_ (fun ad e => by cases e; have := lo_x0.out; have := hi_x0.out; have := lo_xb2.out; have := hi_xb2.out; have := lo_x1.out; have := hi_x1.out; have := lo_x2.out; have := hi_x2.out; have := lo_x3.out; have := hi_x3.out; show w8.heap.size ≠ g0; omega))
                replace x4 := Lib.hid (rowIs_o x4.out ok_ (fun ad e => by cases e; have := lo_x0.out; have := hi_x0.out; have := lo_x4.out; have := hi_x4.out; have := lo_x1.out; have := hi_x1.out; have := lo_x2.out; have := hi_x2.out; have := lo_x3.out; have := hi_x3.out; have := lo_xb2.out; have := hi_xb2.out; show g4 ≠ g0; omega))
                replace xb3 := Lib.hid (rowIs_o xb3.out ok_ (fun ad e => by cases e; have := lo_x0.out; have := hi_x0.out; have := lo_xb3.out; have := hi_xb3.out; have := lo_x1.out; have := hi_x1.out; have := lo_x2.out; have := hi_x2.out; have := lo_x3.out; have := hi_x3.out; have := lo_xb2.out; have := hi_xb2.out; have := lo_x4.out; have := hi_x4.out; show w9.heap.size ≠ g0; omega))
                replace yAP := Lib.hid (OwnV.o yAP.out ok_ (fun ad ad' e e' => by cases e'; have := lo_x0.out; have := hi_x0.out; have := lo_yAP.out ad e; have := hi_yAP.out ad e; have := lo_x1.out; have := hi_x1.out; have := lo_x2.out; have := hi_x2.out; have := lo_x3.out; have := hi_x3.out; have := lo_xb2.out; have := hi_xb2.out; have := lo_x4.out; have := hi_x4.out; have := lo_xb3.out; have := hi_xb3.out; show ad.block ≠ g0; omega))
                replace yAQ := Lib.hid (OwnV.o yAQ.out ok_ (fun ad ad' e e' => by cases e'; have := lo_x0.out; have := hi_x0.out; have := lo_yAQ.out ad e; have := hi_yAQ.out ad e; have := lo_x1.out; have := hi_x1.out; have := lo_x2.out; have := hi_x2.out; have := lo_x3.out; have := hi_x3.out; have := lo_xb2.out; have := hi_xb2.out; have := lo_x4.out; have := hi_x4.out; have := lo_xb3.out; have := hi_xb3.out; show ad.block ≠ g0; omega))
                replace xgPB := Lib.hid (rowIs_o xgPB.out ok_ (fun ad e => by cases e; have := lo_x0.out; have := hi_x0.out; have := lo_xgPB.out; have := hi_xgPB.out; have := lo_x1.out; have := hi_x1.out; have := lo_x2.out; have := hi_x2.out; have := lo_x3.out; have := hi_x3.out; have := lo_xb2.out; have := hi_xb2.out; have := lo_x4.out; have := hi_x4.out; have := lo_xb3.out; have := hi_xb3.out; have := mo_yAP.out; show w10.heap.size ≠ g0; omega))
                clear ok_ x0
                go_wp2_with fail
                refine (markInt_b g1 n1 _ l1 (1 + (n0 : Int) * 2) _ le1.out x1.out hm1 (by omega) (by omega)).mono ?_
                rintro e w17 ⟨rfl, oo⟩
                have ok_ := oo.o
                clear oo
                replace u := Lib.hid (u.out.trans (ok_.below u.out.size (fun ad e => by cases e; have := lo_x1.out; have := hi_x1.out; have := lo_xB2.out; have := hi_xB2.out; have := lo_xB3.out; have := hi_xB3.out; have := mo_yAM.out; have := lo_x0.out; have := hi_x0.out; show w.heap.size ≤ g1; omega)))
                replace sz := Lib.hid (Nat.le_trans sz.out ok_.size)
                replace xB2 := Lib.hid (rowIs_o xB2.out ok_ (fun ad e => by cases e; have := lo_x1.out; have := hi_x1.out; have := lo_xB2.out; have := hi_xB2.out; have := lo_xB3.out; have := hi_xB3.out; have := mo_yAM.out; have := lo_x0.out; have := hi_x0.out; show w.heap.size ≠ g1; omega))
                replace xB3 := Lib.hid (rowIs_o xB3.out ok_ (fun ad e => by cases e; have := lo_x1.out; have := hi_x1.out; have := lo_xB3.out; have := hi_xB3.out; have := mo_yAM.out; have := lo_x0.out; have := hi_x0.out; show (w.heap.size + 1) ≠ g1; omega))
                replace yAM := Lib.hid (OwnV.o yAM.out ok_ (fun ad ad' e e' => by cases e'; have := lo_x1.out; have := hi_x1.out; have := lo_yAM.out ad e; have := hi_yAM.out ad e; have := lo_x0.out; have := hi_x0.out; show ad.block ≠ g1; omega))
                replace yAN := Lib.hid (OwnV.o yAN.out ok_ (fun ad ad' e e' => by cases e'; have := lo_x1.out; have := hi_x1.out; have := lo_yAN.out ad e; have := hi_yAN.out ad e; have := lo_x0.out; have := hi_x0.out; show ad.block ≠ g1; omega))
                replace xgMB := Lib.hid (rowIs_o xgMB.out ok_ (fun ad e => by cases e; have := lo_x1.out; have := hi_x1.out; have := lo_xgMB.out; have := hi_xgMB.out; have := lo_x0.out; have := hi_x0.out; show gMB ≠ g1; omega))
                replace x2 := Lib.hid (rowIs_o x2.out ok_ (fun ad e => by cases e; have := lo_x1.out; have := hi_x1.out; have := lo_x2.out; have := hi_x2.out; show g2 ≠ g1; omega))
                replace x3 := Lib.hid (rowIs_o x3.out ok_ (fun ad e => by cases e; have := lo_x1.out; have := hi_x1.out; have := lo_x3.out; have := hi_x3.out; have := lo_x2.out; have := hi_x2.out; show g3 ≠ g1; omega))
                replace xb2 := Lib.hid (rowIs_o xb2.out ok_ (fun ad e => by cases e; have := lo_x1.out; have := hi_x1.out; have := lo_xb2.out; have := hi_xb2.out; have := lo_x2.out; have := hi_x2.out; have := lo_x3.out; have := hi_x3.out; show w8.heap.size ≠ g1; omega))
                replace x4 := Lib.hid (rowIs_o x4.out ok_ (fun ad e => by cases e; have := lo_x1.out; have := hi_x1.out; have := lo_x4.out; have := hi_x4.out; have := lo_x2.out; have := hi_x2.out; have := lo_x3.out; have := hi_x3.out; have := lo_xb2.out; have := hi_xb2.out; show g4 ≠ g1; omega))
                replace xb3 := Lib.hid (rowIs_o xb3.out ok_ (fun ad e => by cases e; have := lo_x1.out; have := hi_x1.out; have := lo_xb3.out; have := hi_xb3.out; have := lo_x2.out; have := hi_x2.out; have := lo_x3.out; have := hi_x3.out; have := lo_xb2.out; have := hi_xb2.out; have := lo_x4.out; have := hi_x4.out; show w9.heap.size ≠ g1; omega))
                replace yAP := Lib.hid (OwnV.o yAP.out ok_ (fun ad ad' e e' => by cases e'; have := lo_x1.out; have := hi_x1.out; have := lo_yAP.out ad e; have := hi_yAP.out ad e; have := lo_x2.out; have := hi_x2.out; have := lo_x3.out; have := hi_x3.out; have := lo_xb2.out; have := hi_xb2.out; have := lo_x4.out; have := hi_x4.out; have := lo_xb3.out; have := hi_xb3.out; show ad.block ≠ g1; omega))
                replace yAQ := Lib.hid (OwnV.o yAQ.out ok_ (fun ad ad' e e' => by cases e'; have := lo_x1.out; have := hi_x1.out; have := lo_yAQ.out ad e; have := hi_yAQ.out ad e; have := lo_x2.out; have := hi_x2.out; have := lo_x3.out; have := hi_x3.out; have := lo_xb2.out; have := hi_xb2.out; have := lo_x4.out; have := hi_x4.out; have := lo_xb3.out; have := hi_xb3.out; show ad.block ≠ g1; omega))
                replace xgPB := Lib.hid (rowIs_o xgPB.out ok_ (fun ad e => by cases e; have := lo_x1.out; have := hi_x1.out; have := lo_xgPB.out; have := hi_xgPB.out; have := lo_x2.out; have := hi_x2.out; have := lo_x3.out; have := hi_x3.out; have := lo_xb2.out; have := hi_xb2.out; have := lo_x4.out; have := hi_x4.out; have := lo_xb3.out; have := hi_xb3.out; have := mo_yAP.out; show w10.heap.size ≠ g1; omega))
                clear ok_ x1
                have hcX2_0 := row2_0 (xb2.out)
                have hcX2_1 := row2_1 (xb2.out)
                go_wp2_with fail
                refine (markView_b g2 n2 _ l2 g3 n3 _ l3 (1 + (n0 : Int) * 2 + (n1 : Int)) _ le2.out le3.out x2.out x3.out (by have := hi_x2.out; have := lo_x3.out; omega) hm2 hm3 (by omega) (by omega)).mono ?_
                rintro e w18 ⟨rfl, w18m, ok_, ok2_⟩
                clear hcX2_0 hcX2_1
                replace u := Lib.hid (u.out.trans (ok_.below u.out.size (fun ad e => by cases e; have := lo_x2.out; have := hi_x2.out; have := lo_xB2.out; have := hi_xB2.out; have := lo_xB3.out; have := hi_xB3.out; have := mo_yAM.out; have := lo_x0.out; have := hi_x0.out; have := lo_x1.out; have := hi_x1.out; show w.heap.size ≤ g2; omega)))
                replace sz := Lib.hid (Nat.le_trans sz.out ok_.size)
                replace xB2 := Lib.hid (rowIs_o xB2.out ok_ (fun ad e => by cases e; have := lo_x2.out; have := hi_x2.out; have := lo_xB2.out; have := hi_xB2.out; have := lo_xB3.out; have := hi_xB3.out; have := mo_yAM.out; have := lo_x0.out; have := hi_x0.out; have := lo_x1.out; have := hi_x1.out; show w.heap.size ≠ g2; omega))
                replace xB3 := Lib.hid (rowIs_o xB3.out ok_ (fun ad e => by cases e; have := lo_x2.out; have := hi_x2.out; have := lo_xB3.out; have := hi_xB3.out; have := mo_yAM.out; have := lo_x0.out; have := hi_x0.out; have := lo_x1.out; have := hi_x1.out; show (w.heap.size + 1) ≠ g2; omega))
                replace yAM := Lib.hid (OwnV.o yAM.out ok_ (fun ad ad' e e' => by cases e'; have := lo_x2.out; have := hi_x2.out; have := lo_yAM.out ad e; have := hi_yAM.out ad e; have := lo_x0.out; have := hi_x0.out; have := lo_x1.out; have := hi_x1.out; show ad.block ≠ g2; omega))
                replace yAN := Lib.hid (OwnV.o yAN.out ok_ (fun ad ad' e e' => by cases e'; have := lo_x2.out; have := hi_x2.out; have := lo_yAN.out ad e; have := hi_yAN.out ad e; have := lo_x0.out; have := hi_x0.out; have := lo_x1.out; have := hi_x1.out; show ad.block ≠ g2; omega))
                replace xgMB := Lib.hid (rowIs_o xgMB.out ok_ (fun ad e => by cases e; have := lo_x2.out; have := hi_x2.out; have := lo_xgMB.out; have := hi_xgMB.out; have := lo_x0.out; have := hi_x0.out; have := lo_x1.out; have := hi_x1.out; show gMB ≠ g2; omega))
                replace x3 := Lib.hid (rowIs_o x3.out ok_ (fun ad e => by cases e; have := lo_x2.out; have := hi_x2.out; have := lo_x3.out; have := hi_x3.out; show g3 ≠ g2; omega))
                replace xb2 := Lib.hid (rowIs_o xb2.out ok_ (fun ad e => by cases e; have := lo_x2.out; have := hi_x2.out; have := lo_xb2.out; have := hi_xb2.out; have := lo_x3.out; have := hi_x3.out; show w8.heap.size ≠ g2; omega))
                replace x4 := Lib.hid (rowIs_o x4.out ok_ (fun ad e => by cases e; have := lo_x2.out; have := hi_x2.out; have := lo_x4.out; have := hi_x4.out; have := lo_x3.out; have := hi_x3.out; have := lo_xb2.out; have := hi_xb2.out; show g4 ≠ g2; omega))
                replace xb3 := Lib.hid (rowIs_o xb3.out ok_ (fun ad e => by cases e; have := lo_x2.out; have := hi_x2.out; have := lo_xb3.out; have := hi_xb3.out; have := lo_x3.out; have := hi_x3.out; have := lo_xb2.out; have := hi_xb2.out; have := lo_x4.out; have := hi_x4.out; show w9.heap.size ≠ g2; omega))
                replace yAP := Lib.hid (OwnV.o yAP.out ok_ (fun ad ad' e e' => by cases e'; have := lo_x2.out; have := hi_x2.out; have := lo_yAP.out ad e; have := hi_yAP.out ad e; have := lo_x3.out; have := hi_x3.out; have := lo_xb2.out; have := hi_xb2.out; have := lo_x4.out; have := hi_x4.out; have := lo_xb3.out; have := hi_xb3.out; show ad.block ≠ g2; omega))
                replace yAQ := Lib.hid (OwnV.o yAQ.out ok_ (fun ad ad' e e' => by cases e'; have := lo_x2.out; have := hi_x2.out; have := lo_yAQ.out ad e; have := hi_yAQ.out ad e; have := lo_x3.out; have := hi_x3.out; have := lo_xb2.out; have := hi_xb2.out; have := lo_x4.out; have := hi_x4.out; have := lo_xb3.out; have := hi_xb3.out; show ad.block ≠ g2; omega))
                replace xgPB := Lib.hid (rowIs_o xgPB.out ok_ (fun ad e => by cases e; have := lo_x2.out; have := hi_x2.out; have := lo_xgPB.out; have := hi_xgPB.out; have := lo_x3.out; have := hi_x3.out; have := lo_xb2.out; have := hi_xb2.out; have := lo_x4.out; have := hi_x4.out; have := lo_xb3.out; have := hi_xb3.out; have := mo_yAP.out; show w10.heap.size ≠ g2; omega))
                clear ok_ x2
                replace u := Lib.hid (u.out.trans (ok2_.below u.out.size (fun ad e => by cases e; have := lo_x3.out; have := hi_x3.out; have := lo_xB2.out; have := hi_xB2.out; have := lo_xB3.out; have := hi_xB3.out; have := mo_yAM.out; have := lo_x0.out; have := hi_x0.out; have := lo_x1.out; have := hi_x1.out; have := lo_x2.out; have := hi_x2.out; show w.heap.size ≤ g3; omega)))
                replace sz := Lib.hid (Nat.le_trans sz.out ok2_.size)
                replace xB2 := Lib.hid (rowIs_o xB2.out ok2_ (fun ad e => by cases e; have := lo_x3.out; have := hi_x3.out; have := lo_xB2.out; have := hi_xB2.out; have := lo_xB3.out; have := hi_xB3.out; have := mo_yAM.out; have := lo_x0.out; have := hi_x0.out; have := lo_x1.out; have := hi_x1.out; have := lo_x2.out; have := hi_x2.out; show w.heap.size ≠ g3; omega))
                replace xB3 := Lib.hid (rowIs_o xB3.out ok2_ (fun ad e => by cases e; have := lo_x3.out; have := hi_x3.out; have := lo_xB3.out; have := hi_xB3.out; have := mo_yAM.out; have := lo_x0.out; have := hi_x0.out; have := lo_x1.out; have := hi_x1.out; have := lo_x2.out; have := hi_x2.out; show (w.heap.size + 1) ≠ g3; omega))
                replace yAM := Lib.hid (OwnV.o yAM.out ok2_ (fun ad ad' e e' => by cases e'; have := lo_x3.out; have := hi_x3.out; have := lo_yAM.out ad e; have := hi_yAM.out ad e; have := lo_x0.out; have := hi_x0.out; have := lo_x1.out; have := hi_x1.out; have := lo_x2.out; have := hi_x2.out; show ad.block ≠ g3; omega))
                replace yAN := Lib.hid (OwnV.o yAN.out ok2_ (fun ad ad' e e' => by cases e'; have := lo_x3.out; have := hi_x3.out; have := lo_yAN.out ad e; have := hi_yAN.out ad e; have := lo_x0.out; have := hi_x0.out; have := lo_x1.out; have := hi_x1.out; have := lo_x2.out; have := hi_x2.out; show ad.block ≠ g3; omega))
                replace xgMB := Lib.hid (rowIs_o xgMB.out ok2_ (fun ad e => by cases e; have := lo_x3.out; have := hi_x3.out; have := lo_xgMB.out; have := hi_xgMB.out; have := lo_x0.out; have := hi_x0.out; have := lo_x1.out; have := hi_x1.out; have := lo_x2.out; have := hi_x2.out; show gMB ≠ g3; omega))
                replace xb2 := Lib.hid (rowIs_o xb2.out ok2_ (fun ad e => by cases e; have := lo_x3.out; have := hi_x3.out; have := lo_xb2.out; have := hi_xb2.out; show w8.heap.size ≠ g3; omega))
                replace x4 := Lib.hid (rowIs_o x4.out ok2_ (fun ad e => by cases e; have := lo_x3.out; have := hi_x3.out; have := lo_x4.out; have := hi_x4.out; have := lo_xb2.out; have := hi_xb2.out; show g4 ≠ g3; omega))
                replace xb3 := Lib.hid (rowIs_o xb3.out ok2_ (fun ad e => by cases e; have := lo_x3.out; have := hi_x3.out; have := lo_xb3.out; have := hi_xb3.out; have := lo_xb2.out; have := hi_xb2.out; have := lo_x4.out; have := hi_x4.out; show w9.heap.size ≠ g3; omega))
                replace yAP := Lib.hid (OwnV.o yAP.out ok2_ (fun ad ad' e e' => by cases e'; have := lo_x3.out; have := hi_x3.out; have := lo_yAP.out ad e; have := hi_yAP.out ad e; have := lo_xb2.out; have := hi_xb2.out; have := lo_x4.out; have := hi_x4.out; have := lo_xb3.out; have := hi_xb3.out; show ad.block ≠ g3; omega))
                replace yAQ := Lib.hid (OwnV.o yAQ.out ok2_ (fun ad ad' e e' => by cases e'; have := lo_x3.out; have := hi_x3.out; have := lo_yAQ.out ad e; have := hi_yAQ.out ad e; have := lo_xb2.out; have := hi_xb2.out; have := lo_x4.out; have := hi_x4.out; have := lo_xb3.out; have := hi_xb3.out; show ad.block ≠ g3; omega))
                replace xgPB := Lib.hid (rowIs_o xgPB.out ok2_ (fun ad e => by cases e; have := lo_x3.out; have := hi_x3.out; have := lo_xgPB.out; have := hi_xgPB.out; have := lo_xb2.out; have := hi_xb2.out; have := lo_x4.out; have := hi_x4.out; have := lo_xb3.out; have := hi_xb3.out; have := mo_yAP.out; show w10.heap.size ≠ g3; omega))
                clear ok2_ x3
                clear xb2
                have hcX3_0 := (xb3.out).cell (i := 0) (by omega)
                go_wp2_with fail
                refine (markPool_b g4 n4 _ l4 (1 + (n0 : Int) * 2 + (n1 : Int) + ((n2 : Int) + n3) * 3) _ le4.out x4.out hm4 (by omega) (by omega)).mono ?_
                rintro e w19 ⟨rfl, oo⟩
                have ok_ := oo.o
                clear oo
                clear hcX3_0
                replace u := Lib.hid (u.out.trans (ok_.below u.out.size (fun ad e => by cases e; have := lo_x4.out; have := hi_x4.out; have := lo_xB2.out; have := hi_xB2.out; have := lo_xB3.out; have := hi_xB3.out; have := mo_yAM.out; have := lo_x0.out; have := hi_x0.out; have := lo_x1.out; have := hi_x1.out; have := lo_x2.out; have := hi_x2.out; have := lo_x3.out; have := hi_x3.out; have := lo_xb2.out; have := hi_xb2.out; show w.heap.size ≤ g4; omega)))
                replace sz := Lib.hid (Nat.le_trans sz.out ok_.size)
                replace xB2 := Lib.hid (rowIs_o xB2.out ok_ (fun ad e => by cases e; have := lo_x4.out; have := hi_x4.out; have := lo_xB2.out; have := hi_xB2.out; have := lo_xB3.out; have := hi_xB3.out; have := mo_yAM.out; have := lo_x0.out; have := hi_x0.out; have := lo_x1.out; have := hi_x1.out; have := lo_x2.out; have := hi_x2.out; have := lo_x3.out; have := hi_x3.out; have := lo_xb2.out; have := hi_xb2.out; show w.heap.size ≠ g4; omega))
                replace xB3 := Lib.hid (rowIs_o xB3.out ok_ (fun ad e => by cases e; have := lo_x4.out; have := hi_x4.out; have := lo_xB3.out; have := hi_xB3.out; have := mo_yAM.out; have := lo_x0.out; have := hi_x0.out; have := lo_x1.out; have := hi_x1.out; have := lo_x2.out; have := hi_x2.out; have := lo_x3.out; have := hi_x3.out; have := lo_xb2.out; have := hi_xb2.out; show (w.heap.size + 1) ≠ g4; omega))
                replace yAM := Lib.hid (OwnV.o yAM.out ok_ (fun ad ad' e e' => by cases e'; have := lo_x4.out; have := hi_x4.out; have := lo_yAM.out ad e; have := hi_yAM.out ad e; have := lo_x0.out; have := hi_x0.out; have := lo_x1.out; have := hi_x1.out; have := lo_x2.out; have := hi_x2.out; have := lo_x3.out; have := hi_x3.out; have := lo_xb2.out; have := hi_xb2.out; show ad.block ≠ g4; omega))
                replace yAN := Lib.hid (OwnV.o yAN.out ok_ (fun ad ad' e e' => by cases e'; have := lo_x4.out; have := hi_x4.out; have := lo_yAN.out ad e; have := hi_yAN.out ad e; have := lo_x0.out; have := hi_x0.out; have := lo_x1.out; have := hi_x1.out; have := lo_x2.out; have := hi_x2.out; have := lo_x3.out; have := hi_x3.out; have := lo_xb2.out; have := hi_xb2.out; show ad.block ≠ g4; omega))
                replace xgMB := Lib.hid (rowIs_o xgMB.out ok_ (fun ad e => by cases e; have := lo_x4.out; have := hi_x4.out; have := lo_xgMB.out; have := hi_xgMB.out; have := lo_x0.out; have := hi_x0.out; have := lo_x1.out; have := hi_x1.out; have := lo_x2.out; have := hi_x2.out; have := lo_x3.out; have := hi_x3.out; have := lo_xb2.out; have := hi_xb2.out; show gMB ≠ g4; omega))
                replace xb3 := Lib.hid (rowIs_o xb3.out ok_ (fun ad e => by cases e; have := lo_x4.out; have := hi_x4.out; have := lo_xb3.out; have := hi_xb3.out; show w9.heap.size ≠ g4; omega))
                replace yAP := Lib.hid (OwnV.o yAP.out ok_ (fun ad ad' e e' => by cases e'; have := lo_x4.out; have := hi_x4.out; have := lo_yAP.out ad e; have := hi_yAP.out ad e; have := lo_xb3.out; have := hi_xb3.out; show ad.block ≠ g4; omega))
                replace yAQ := Lib.hid (OwnV.o yAQ.out ok_ (fun ad ad' e e' => by cases e'; have := lo_x4.out; have := hi_x4.out; have := lo_yAQ.out ad e; have := hi_yAQ.out ad e; have := lo_xb3.out; have := hi_xb3.out; show ad.block ≠ g4; omega))
                replace xgPB := Lib.hid (rowIs_o xgPB.out ok_ (fun ad e => by cases e; have := lo_x4.out; have := hi_x4.out; have := lo_xgPB.out; have := hi_xgPB.out; have := lo_xb3.out; have := hi_xb3.out; have := mo_yAP.out; show w10.heap.size ≠ g4; omega))
                clear ok_ x4
                clear xb3
                have hk0 : ¬ (1 + (n0 : Int) * 2 + (n1 : Int) + ((n2 : Int) + n3) * 3 + (n4 : Int) * 3 < 0) := by omega
                have hrgPB_0 := row2_0 (xgPB.out)
                have hrgPB_1 := row2_1 (xgPB.out)
                have hrgMB_0 := row2_0 (xgMB.out)
                have hrgMB_1 := row2_1 (xgMB.out)
                go_wp2_with fail
                refine (eqView_b AP AM nP nM cP cM _ AQ AN nQ nN cQ cN _ _ yAP.out.votes yAM.out.votes yAQ.out.votes yAN.out.votes (by omega) (by omega) (by omega) (by omega)).mono ?_
                rintro e w20 ⟨rfl, b20⟩
                clear hrgPB_0 hrgPB_1 hrgMB_0 hrgMB_1
                replace u := Lib.hid (u.out.trans (b20.mono u.out.size))
                replace sz := Lib.hid (Nat.le_trans sz.out b20.size)
                replace xB2 := Lib.hid (rowIs_below xB2.out b20 xB2.out.lt)
                replace xB3 := Lib.hid (rowIs_below xB3.out b20 xB3.out.lt)
                replace yAM := Lib.hid (yAM.out.below b20)
                replace yAN := Lib.hid (yAN.out.below b20)
                replace xgMB := Lib.hid (rowIs_below xgMB.out b20 xgMB.out.lt)
                replace yAP := Lib.hid (yAP.out.below b20)
                replace yAQ := Lib.hid (yAQ.out.below b20)
                replace xgPB := Lib.hid (rowIs_below xgPB.out b20 xgPB.out.lt)
                clear b20
                clear hk0
                have hrgPB_0 := row2_0 (xgPB.out)
                have hrgPB_1 := row2_1 (xgPB.out)
                go_wp2_with fail
                refine (markViewR_b AP nP cP _ _ AQ nQ cQ _ _ 1 _ yAP.out yAQ.out apP.out (by omega) (by omega) (by decide) (by decide)).mono ?_
                rintro e w21 ⟨rfl, oP2, oQ2, w21m, ok_, ok2_⟩
                clear hrgPB_0 hrgPB_1
                replace u := Lib.hid (u.out.trans (ok_.below u.out.size (fun ad e => by have := lo_yAP.out ad e; have := hi_yAP.out ad e; have := lo_xB2.out; have := hi_xB2.out; have := lo_xB3.out; have := hi_xB3.out; have := mo_yAM.out; have := lo_x0.out; have := hi_x0.out; have := lo_x1.out; have := hi_x1.out; have := lo_x2.out; have := hi_x2.out; have := lo_x3.out; have := hi_x3.out; have := lo_xb2.out; have := hi_xb2.out; have := lo_x4.out; have := hi_x4.out; have := lo_xb3.out; have := hi_xb3.out; omega)))
                replace sz := Lib.hid (Nat.le_trans sz.out ok_.size)
                replace xB2 := Lib.hid (rowIs_o xB2.out ok_ (fun ad e => by have := lo_yAP.out ad e; have := hi_yAP.out ad e; have := lo_xB2.out; have := hi_xB2.out; have := lo_xB3.out; have := hi_xB3.out; have := mo_yAM.out; have := lo_x0.out; have := hi_x0.out; have := lo_x1.out; have := hi_x1.out; have := lo_x2.out; have := hi_x2.out; have := lo_x3.out; have := hi_x3.out; have := lo_xb2.out; have := hi_xb2.out; have := lo_x4.out; have := hi_x4.out; have := lo_xb3.out; have := hi_xb3.out; omega))
                replace xB3 := Lib.hid (rowIs_o xB3.out ok_ (fun ad e => by have := lo_yAP.out ad e; have := hi_yAP.out ad e; have := lo_xB3.out; have := hi_xB3.out; have := mo_yAM.out; have := lo_x0.out; have := hi_x0.out; have := lo_x1.out; have := hi_x1.out; have := lo_x2.out; have := hi_x2.out; have := lo_x3.out; have := hi_x3.out; have := lo_xb2.out; have := hi_xb2.out; have := lo_x4.out; have := hi_x4.out; have := lo_xb3.out; have := hi_xb3.out; omega))
                replace yAM := Lib.hid (OwnV.o yAM.out ok_ (fun ad ad' e e' => by have := lo_yAP.out ad' e'; have := hi_yAP.out ad' e'; have := lo_yAM.out ad e; have := hi_yAM.out ad e; have := lo_x0.out; have := hi_x0.out; have := lo_x1.out; have := hi_x1.out; have := lo_x2.out; have := hi_x2.out; have := lo_x3.out; have := hi_x3.out; have := lo_xb2.out; have := hi_xb2.out; have := lo_x4.out; have := hi_x4.out; have := lo_xb3.out; have := hi_xb3.out; omega))
                replace yAN := Lib.hid (OwnV.o yAN.out ok_ (fun ad ad' e e' => by have := lo_yAP.out ad' e'; have := hi_yAP.out ad' e'; have := lo_yAN.out ad e; have := hi_yAN.out ad e; have := lo_x0.out; have := hi_x0.out; have := lo_x1.out; have := hi_x1.out; have := lo_x2.out; have := hi_x2.out; have := lo_x3.out; have := hi_x3.out; have := lo_xb2.out; have := hi_xb2.out; have := lo_x4.out; have := hi_x4.out; have := lo_xb3.out; have := hi_xb3.out; omega))
                replace xgMB := Lib.hid (rowIs_o xgMB.out ok_ (fun ad e => by have := lo_yAP.out ad e; have := hi_yAP.out ad e; have := lo_xgMB.out; have := hi_xgMB.out; have := lo_x0.out; have := hi_x0.out; have := lo_x1.out; have := hi_x1.out; have := lo_x2.out; have := hi_x2.out; have := lo_x3.out; have := hi_x3.out; have := lo_xb2.out; have := hi_xb2.out; have := lo_x4.out; have := hi_x4.out; have := lo_xb3.out; have := hi_xb3.out; omega))
                replace yAQ := Lib.hid (OwnV.o yAQ.out ok_ (fun ad ad' e e' => (apP.out ad' ad e' e).symm))
                replace xgPB := Lib.hid (rowIs_o xgPB.out ok_ (fun ad e => by have := lo_yAP.out ad e; have := hi_yAP.out ad e; have := lo_xgPB.out; have := hi_xgPB.out; omega))
                clear yAP ok_
                replace u := Lib.hid (u.out.trans (ok2_.below u.out.size (fun ad e => by have := lo_yAQ.out ad e; have := hi_yAQ.out ad e; have := lo_xB2.out; have := hi_xB2.out; have := lo_xB3.out; have := hi_xB3.out; have := mo_yAM.out; have := lo_x0.out; have := hi_x0.out; have := lo_x1.out; have := hi_x1.out; have := lo_x2.out; have := hi_x2.out; have := lo_x3.out; have := hi_x3.out; have := lo_xb2.out; have := hi_xb2.out; have := lo_x4.out; have := hi_x4.out; have := lo_xb3.out; have := hi_xb3.out; omega)))
                replace sz := Lib.hid (Nat.le_trans sz.out ok2_.size)
                replace xB2 := Lib.hid (rowIs_o xB2.out ok2_ (fun ad e => by have := lo_yAQ.out ad e; have := hi_yAQ.out ad e; have := lo_xB2.out; have := hi_xB2.out; have := lo_xB3.out; have := hi_xB3.out; have := mo_yAM.out; have := lo_x0.out; have := hi_x0.out; have := lo_x1.out; have := hi_x1.out; have := lo_x2.out; have := hi_x2.out; have := lo_x3.out; have := hi_x3.out; have := lo_xb2.out; have := hi_xb2.out; have := lo_x4.out; have := hi_x4.out; have := lo_xb3.out; have := hi_xb3.out; omega))
                replace xB3 := Lib.hid (rowIs_o xB3.out ok2_ (fun ad e => by have := lo_yAQ.out ad e; have := hi_yAQ.out ad e; have := lo_xB3.out; have := hi_xB3.out; have := mo_yAM.out; have := lo_x0.out; have := hi_x0.out; have := lo_x1.out; have := hi_x1.out; have := lo_x2.out; have := hi_x2.out; have := lo_x3.out; have := hi_x3.out; have := lo_xb2.out; have := hi_xb2.out; have := lo_x4.out; have := hi_x4.out; have := lo_xb3.out; have := hi_xb3.out; omega))
                replace yAM := Lib.hid (OwnV.o yAM.out ok2_ (fun ad ad' e e' => by have := lo_yAQ.out ad' e'; have := hi_yAQ.out ad' e'; have := lo_yAM.out ad e; have := hi_yAM.out ad e; have := lo_x0.out; have := hi_x0.out; have := lo_x1.out; have := hi_x1.out; have := lo_x2.out; have := hi_x2.out; have := lo_x3.out; have := hi_x3.out; have := lo_xb2.out; have := hi_xb2.out; have := lo_x4.out; have := hi_x4.out; have := lo_xb3.out; have := hi_xb3.out; omega))
                replace yAN := Lib.hid (OwnV.o yAN.out ok2_ (fun ad ad' e e' => by have := lo_yAQ.out ad' e'; have := hi_yAQ.out ad' e'; have := lo_yAN.out ad e; have := hi_yAN.out ad e; have := lo_x0.out; have := hi_x0.out; have := lo_x1.out; have := hi_x1.out; have := lo_x2.out; have := hi_x2.out; have := lo_x3.out; have := hi_x3.out; have := lo_xb2.out; have := hi_xb2.out; have := lo_x4.out; have := hi_x4.out; have := lo_xb3.out; have := hi_xb3.out; omega))
                replace xgMB := Lib.hid (rowIs_o xgMB.out ok2_ (fun ad e => by have := lo_yAQ.out ad e; have := hi_yAQ.out ad e; have := lo_xgMB.out; have := hi_xgMB.out; have := lo_x0.out; have := hi_x0.out; have := lo_x1.out; have := hi_x1.out; have := lo_x2.out; have := hi_x2.out; have := lo_x3.out; have := hi_x3.out; have := lo_xb2.out; have := hi_xb2.out; have := lo_x4.out; have := hi_x4.out; have := lo_xb3.out; have := hi_xb3.out; omega))
                replace xgPB := Lib.hid (rowIs_o xgPB.out ok2_ (fun ad e => by have := lo_yAQ.out ad e; have := hi_yAQ.out ad e; have := lo_xgPB.out; have := hi_xgPB.out; omega))
                clear yAQ ok2_
                have yAP := Lib.hid oP2; have yAQ := Lib.hid oQ2; clear oP2 oQ2
                have hrgPB_0 := row2_0 (xgPB.out)
                have hrgPB_1 := row2_1 (xgPB.out)
                go_wp2_with fail
                refine (heldView_b AP nP cP AQ nQ cQ 1 _ yAP.out.votes yAQ.out.votes (by omega) (by omega) (by decide) (by decide)).mono ?_
                rintro e w22 ⟨rfl, b22⟩
                clear hrgPB_0 hrgPB_1
                replace u := Lib.hid (u.out.trans (b22.mono u.out.size))
                replace sz := Lib.hid (Nat.le_trans sz.out b22.size)
                replace xB2 := Lib.hid (rowIs_below xB2.out b22 xB2.out.lt)
                replace xB3 := Lib.hid (rowIs_below xB3.out b22 xB3.out.lt)
                replace yAM := Lib.hid (yAM.out.below b22)
                replace yAN := Lib.hid (yAN.out.below b22)
                replace xgMB := Lib.hid (rowIs_below xgMB.out b22 xgMB.out.lt)
                replace xgPB := Lib.hid (rowIs_below xgPB.out b22 xgPB.out.lt)
                replace yAP := Lib.hid (yAP.out.below b22)
                replace yAQ := Lib.hid (yAQ.out.below b22)
                clear b22
                have hlt0 : ¬ (1 + ((nP : Int) + nQ) * 3) < 0 := by omega
                have hne : ((1 + ((nP : Int) + nQ) * 3) != (1 + ((nP : Int) + nQ) * 3)) = false := by simp
                have hcB2_0 := row2_0 (xB2.out)
                have hcB2_1 := row2_1 (xB2.out)
                have hcB3_0 := (xB3.out).cell (i := 0) (by omega)
                go_upto_region 44 with fail
                go_cut [21, 22] from 134 to 145 (fun s t wx => ∃ AX nX cX AY nY cY pX, s = .pointer (some ⟨pX, 0, none⟩) ∧ t = .bool (mvOK l0 l1 l2 l3 l4) ∧ Hid (OwnV wx w22.heap.size AX nX (mvS l0 l1 l2 l3 l4)) ∧ Hid (OwnV wx w22.heap.size AY nY (mvF l0 l1 l2 l3 l4)) ∧ Hid (Apart AX AY) ∧ Hid (wx.rowIs pX 63 2 (fn2 (.slice AX nX cX) (.slice AY nY cY))) ∧ Hid (w22.heap.size ≤ pX) ∧ Hid (Below w22.heap.size w22 wx))
                case first =>
                  have tk0 : True := trivial
                  have hz_2_0 := row2_0 (rowIs_below (show w22.drew.rowIs w.heap.size 59 2 (fn2 (.slice A2 n2 c2) (.slice A3 n3 c3)) from xB2.out) (bx_below w22.drew (.cells #[.slice none 0 0, .slice none 0 0] 63)) (show w.heap.size < w22.drew.heap.size from xB2.out.lt))
                  have hz_2_1 := row2_1 (rowIs_below (show w22.drew.rowIs w.heap.size 59 2 (fn2 (.slice A2 n2 c2) (.slice A3 n3 c3)) from xB2.out) (bx_below w22.drew (.cells #[.slice none 0 0, .slice none 0 0] 63)) (show w.heap.size < w22.drew.heap.size from xB2.out.lt))
                  have hz_3_0 := (rowIs_below (show w22.drew.rowIs (w.heap.size + 1) 46 1 (fun _ => .slice A4 n4 c4) from xB3.out) (bx_below w22.drew (.cells #[.slice none 0 0, .slice none 0 0] 63)) (show (w.heap.size + 1) < w22.drew.heap.size from xB3.out.lt)).cell (i := 0) (by omega)
                  go_region_held3 (fun w' => w'.cell? ⟨w.heap.size, 0, none⟩ = some (.slice A2 n2 c2) ∧ w'.cell? ⟨w.heap.size, 1, none⟩ = some (.slice A3 n3 c3) ∧ w'.cell? ⟨(w.heap.size + 1), 0, none⟩ = some (.slice A4 n4 c4)) (first | assumption | (refine ⟨?_, ?_, ?_⟩ <;> assumption) | go_keep) (first
                    | (clear tk0
                       go_at_call 17
                       refine (toBlk_g A0 n0 c0 l0 _ (show BlksAt w22.drew w22.drew.heap.size A0 n0 l0 from ⟨(ha0.out.up u.out).1, (ha0.out.up u.out).2⟩) hm0).mono ?_
                       rintro e wy0 ⟨gy0, rfl, ry0, by0, dy0, fy0⟩
                       have by_ := by0
                       have y0 := Lib.hid ry0
                       have ua0 := Lib.hid (show Below w22.heap.size w22 wy0 from ⟨by_.os, by_.tape, by_.output, by_.size, by_.block⟩)
                       have hd0_2_0 := row2_0 (rowIs_below xB2.out ua0.out xB2.out.lt)
                       have hd0_2_1 := row2_1 (rowIs_below xB2.out ua0.out xB2.out.lt)
                       have hd0_3_0 := (rowIs_below xB3.out ua0.out xB3.out.lt).cell (i := 0) (by omega)
                       have he0_2_0 := row2_0 (rowIs_below (rowIs_below xB2.out ua0.out xB2.out.lt) (bx_below wy0 (.cells #[.slice none 0 0, .slice none 0 0] 63)) (rowIs_below xB2.out ua0.out xB2.out.lt).lt)
                       have he0_2_1 := row2_1 (rowIs_below (rowIs_below xB2.out ua0.out xB2.out.lt) (bx_below wy0 (.cells #[.slice none 0 0, .slice none 0 0] 63)) (rowIs_below xB2.out ua0.out xB2.out.lt).lt)
                       have he0_3_0 := (rowIs_below (rowIs_below xB3.out ua0.out xB3.out.lt) (bx_below wy0 (.cells #[.slice none 0 0, .slice none 0 0] 63)) (rowIs_below xB3.out ua0.out xB3.out.lt).lt).cell (i := 0) (by omega)
                       clear ry0 by_ by0
                       have tk1 : True := trivial)
                    | (clear tk0
                       go_at_call 17
                       have kb := bx_below w22.drew (.cells #[.slice none 0 0, .slice none 0 0] 63)
                       refine (toBlk_g A0 n0 c0 l0 _ ((show BlksAt w22.drew w22.drew.heap.size A0 n0 l0 from ⟨(ha0.out.up u.out).1, (ha0.out.up u.out).2⟩).up kb) hm0).mono ?_
                       rintro e wy0 ⟨gy0, rfl, ry0, by0, dy0, fy0⟩
                       have zb := Lib.hid (show wy0.rowIs w22.heap.size 63 2 (fn2 (.slice none 0 0) (.slice none 0 0)) from rowIs_below (bx_row2 w22.drew (.slice none 0 0) (.slice none 0 0) 63) by0 (by simp))
                       have lz := Lib.hid (show w22.heap.size ≤ w22.heap.size from Nat.le_refl _)
                       have by_ := kb.trans (by0.mono kb.size)
                       have y0 := Lib.hid ry0
                       have ua0 := Lib.hid (show Below w22.heap.size w22 wy0 from ⟨by_.os, by_.tape, by_.output, by_.size, by_.block⟩)
                       have hd0_2_0 := row2_0 (rowIs_below xB2.out ua0.out xB2.out.lt)
                       have hd0_2_1 := row2_1 (rowIs_below xB2.out ua0.out xB2.out.lt)
                       have hd0_3_0 := (rowIs_below xB3.out ua0.out xB3.out.lt).cell (i := 0) (by omega)
                       clear ry0 by_ by0 kb
                       have tk1 : True := trivial)
                    | (clear tk1
                       go_at_call 18
                       refine (toInt_g A1 n1 c1 l1 _ (ha1.out.up' (u.out.trans (ua0.out.mono u.out.size))) hm1).mono ?_
                       rintro e wy1 ⟨gy1, rfl, ry1, by0, dy1, fy1⟩
                       have by_ := by0
                       try replace zb := Lib.hid (rowIs_below zb.out by_ zb.out.lt)
                       have y1 := Lib.hid ry1
                       replace y0 := Lib.hid (rowIs_below y0.out by_ y0.out.lt)
                       have ua1 := Lib.hid (ua0.out.trans (by_.mono ua0.out.size))
                       have hd1_2_0 := row2_0 (rowIs_below xB2.out ua1.out xB2.out.lt)
                       have hd1_2_1 := row2_1 (rowIs_below xB2.out ua1.out xB2.out.lt)
                       have hd1_3_0 := (rowIs_below xB3.out ua1.out xB3.out.lt).cell (i := 0) (by omega)
                       have he1_2_0 := row2_0 (rowIs_below (rowIs_below xB2.out ua1.out xB2.out.lt) (bx_below wy1 (.cells #[.slice none 0 0, .slice none 0 0] 63)) (rowIs_below xB2.out ua1.out xB2.out.lt).lt)
                       have he1_2_1 := row2_1 (rowIs_below (rowIs_below xB2.out ua1.out xB2.out.lt) (bx_below wy1 (.cells #[.slice none 0 0, .slice none 0 0] 63)) (rowIs_below xB2.out ua1.out xB2.out.lt).lt)
                       have he1_3_0 := (rowIs_below (rowIs_below xB3.out ua1.out xB3.out.lt) (bx_below wy1 (.cells #[.slice none 0 0, .slice none 0 0] 63)) (rowIs_below xB3.out ua1.out xB3.out.lt).lt).cell (i := 0) (by omega)
                       clear ry1 by_ by0
                       have tk2 : True := trivial)
                    | (clear tk1
                       go_at_call 18
                       have kb := bx_below wy0 (.cells #[.slice none 0 0, .slice none 0 0] 63)
                       refine (toInt_g A1 n1 c1 l1 _ (ha1.out.up' ((u.out.trans (ua0.out.mono u.out.size)).trans (kb.mono (u.out.trans (ua0.out.mono u.out.size)).size))) hm1).mono ?_
                       rintro e wy1 ⟨gy1, rfl, ry1, by0, dy1, fy1⟩
                       have zb := Lib.hid (show wy1.rowIs wy0.heap.size 63 2 (fn2 (.slice none 0 0) (.slice none 0 0)) from rowIs_below (bx_row2 wy0 (.slice none 0 0) (.slice none 0 0) 63) by0 (by simp))
                       have lz := Lib.hid (show w22.heap.size ≤ wy0.heap.size from ua0.out.size)
                       have by_ := kb.trans (by0.mono kb.size)
                       have y1 := Lib.hid ry1
                       replace y0 := Lib.hid (rowIs_below y0.out by_ y0.out.lt)
                       have ua1 := Lib.hid (ua0.out.trans (by_.mono ua0.out.size))
                       have hd1_2_0 := row2_0 (rowIs_below xB2.out ua1.out xB2.out.lt)
                       have hd1_2_1 := row2_1 (rowIs_below xB2.out ua1.out xB2.out.lt)
                       have hd1_3_0 := (rowIs_below xB3.out ua1.out xB3.out.lt).cell (i := 0) (by omega)
                       clear ry1 by_ by0 kb
                       have tk2 : True := trivial)
                    | (clear tk2
                       go_at_call 39
                       refine (toView_g A2 n2 c2 l2 A3 n3 c3 l3 _ (ha2.out.up (u.out.trans (ua1.out.mono u.out.size))) (ha3.out.up (u.out.trans (ua1.out.mono u.out.size))) hm2 hm3).mono ?_
                       rintro e wy2 ⟨gy2, gy3, rfl, ry2, ry3, by0, dy2, fy2, fy3⟩
                       have by_ := by0
                       try replace zb := Lib.hid (rowIs_below zb.out by_ zb.out.lt)
                       have y2 := Lib.hid ry2
                       have y3 := Lib.hid ry3
                       replace y0 := Lib.hid (rowIs_below y0.out by_ y0.out.lt)
                       replace y1 := Lib.hid (rowIs_below y1.out by_ y1.out.lt)
                       have ua2 := Lib.hid (ua1.out.trans (by_.mono ua1.out.size))
                       have hd2_2_0 := row2_0 (rowIs_below xB2.out ua2.out xB2.out.lt)
                       have hd2_2_1 := row2_1 (rowIs_below xB2.out ua2.out xB2.out.lt)
                       have hd2_3_0 := (rowIs_below xB3.out ua2.out xB3.out.lt).cell (i := 0) (by omega)
                       have he2_2_0 := row2_0 (rowIs_below (rowIs_below xB2.out ua2.out xB2.out.lt) (bx_below wy2 (.cells #[.slice none 0 0, .slice none 0 0] 63)) (rowIs_below xB2.out ua2.out xB2.out.lt).lt)
                       have he2_2_1 := row2_1 (rowIs_below (rowIs_below xB2.out ua2.out xB2.out.lt) (bx_below wy2 (.cells #[.slice none 0 0, .slice none 0 0] 63)) (rowIs_below xB2.out ua2.out xB2.out.lt).lt)
                       have he2_3_0 := (rowIs_below (rowIs_below xB3.out ua2.out xB3.out.lt) (bx_below wy2 (.cells #[.slice none 0 0, .slice none 0 0] 63)) (rowIs_below xB3.out ua2.out xB3.out.lt).lt).cell (i := 0) (by omega)
                       clear ry2 ry3 by_ by0
                       have tk3 : True := trivial)
                    | (clear tk2
                       go_at_call 39
                       have kb := bx_below wy1 (.cells #[.slice none 0 0, .slice none 0 0] 63)
                       refine (toView_g A2 n2 c2 l2 A3 n3 c3 l3 _ (ha2.out.up ((u.out.trans (ua1.out.mono u.out.size)).trans (kb.mono (u.out.trans (ua1.out.mono u.out.size)).size))) (ha3.out.up ((u.out.trans (ua1.out.mono u.out.size)).trans (kb.mono (u.out.trans (ua1.out.mono u.out.size)).size))) hm2 hm3).mono ?_
                       rintro e wy2 ⟨gy2, gy3, rfl, ry2, ry3, by0, dy2, fy2, fy3⟩
                       have zb := Lib.hid (show wy2.rowIs wy1.heap.size 63 2 (fn2 (.slice none 0 0) (.slice none 0 0)) from rowIs_below (bx_row2 wy1 (.slice none 0 0) (.slice none 0 0) 63) by0 (by simp))
                       have lz := Lib.hid (show w22.heap.size ≤ wy1.heap.size from ua1.out.size)
                       have by_ := kb.trans (by0.mono kb.size)
                       have y2 := Lib.hid ry2
                       have y3 := Lib.hid ry3
                       replace y0 := Lib.hid (rowIs_below y0.out by_ y0.out.lt)
                       replace y1 := Lib.hid (rowIs_below y1.out by_ y1.out.lt)
                       have ua2 := Lib.hid (ua1.out.trans (by_.mono ua1.out.size))
                       have hd2_2_0 := row2_0 (rowIs_below xB2.out ua2.out xB2.out.lt)
                       have hd2_2_1 := row2_1 (rowIs_below xB2.out ua2.out xB2.out.lt)
                       have hd2_3_0 := (rowIs_below xB3.out ua2.out xB3.out.lt).cell (i := 0) (by omega)
                       clear ry2 ry3 by_ by0 kb
                       have tk3 : True := trivial)
                    | (clear tk3
                       go_at_call 32
                       refine (toPool_g A4 n4 c4 l4 _ (ha4.out.up (u.out.trans (ua2.out.mono u.out.size))) hm4).mono ?_
                       rintro e wy3 ⟨gy4, rfl, ry4, by0, dy4, fy4⟩
                       have by_ := by0
                       try replace zb := Lib.hid (rowIs_below zb.out by_ zb.out.lt)
                       have y4 := Lib.hid ry4
                       replace y0 := Lib.hid (rowIs_below y0.out by_ y0.out.lt)
                       replace y1 := Lib.hid (rowIs_below y1.out by_ y1.out.lt)
                       replace y2 := Lib.hid (rowIs_below y2.out by_ y2.out.lt)
                       replace y3 := Lib.hid (rowIs_below y3.out by_ y3.out.lt)
                       have ua3 := Lib.hid (ua2.out.trans (by_.mono ua2.out.size))
                       have hd3_2_0 := row2_0 (rowIs_below xB2.out ua3.out xB2.out.lt)
                       have hd3_2_1 := row2_1 (rowIs_below xB2.out ua3.out xB2.out.lt)
                       have hd3_3_0 := (rowIs_below xB3.out ua3.out xB3.out.lt).cell (i := 0) (by omega)
                       have he3_2_0 := row2_0 (rowIs_below (rowIs_below xB2.out ua3.out xB2.out.lt) (bx_below wy3 (.cells #[.slice none 0 0, .slice none 0 0] 63)) (rowIs_below xB2.out ua3.out xB2.out.lt).lt)
                       have he3_2_1 := row2_1 (rowIs_below (rowIs_below xB2.out ua3.out xB2.out.lt) (bx_below wy3 (.cells #[.slice none 0 0, .slice none 0 0] 63)) (rowIs_below xB2.out ua3.out xB2.out.lt).lt)
                       have he3_3_0 := (rowIs_below (rowIs_below xB3.out ua3.out xB3.out.lt) (bx_below wy3 (.cells #[.slice none 0 0, .slice none 0 0] 63)) (rowIs_below xB3.out ua3.out xB3.out.lt).lt).cell (i := 0) (by omega)
                       clear ry4 by_ by0
                       have tk4 : True := trivial)
                    | (clear tk3
                       go_at_call 32
                       have kb := bx_below wy2 (.cells #[.slice none 0 0, .slice none 0 0] 63)
                       refine (toPool_g A4 n4 c4 l4 _ (ha4.out.up ((u.out.trans (ua2.out.mono u.out.size)).trans (kb.mono (u.out.trans (ua2.out.mono u.out.size)).size))) hm4).mono ?_
                       rintro e wy3 ⟨gy4, rfl, ry4, by0, dy4, fy4⟩
                       have zb := Lib.hid (show wy3.rowIs wy2.heap.size 63 2 (fn2 (.slice none 0 0) (.slice none 0 0)) from rowIs_below (bx_row2 wy2 (.slice none 0 0) (.slice none 0 0) 63) by0 (by simp))
                       have lz := Lib.hid (show w22.heap.size ≤ wy2.heap.size from ua2.out.size)
                       have by_ := kb.trans (by0.mono kb.size)
                       have y4 := Lib.hid ry4
                       replace y0 := Lib.hid (rowIs_below y0.out by_ y0.out.lt)
                       replace y1 := Lib.hid (rowIs_below y1.out by_ y1.out.lt)
                       replace y2 := Lib.hid (rowIs_below y2.out by_ y2.out.lt)
                       replace y3 := Lib.hid (rowIs_below y3.out by_ y3.out.lt)
                       have ua3 := Lib.hid (ua2.out.trans (by_.mono ua2.out.size))
                       have hd3_2_0 := row2_0 (rowIs_below xB2.out ua3.out xB2.out.lt)
                       have hd3_2_1 := row2_1 (rowIs_below xB2.out ua3.out xB2.out.lt)
                       have hd3_3_0 := (rowIs_below xB3.out ua3.out xB3.out.lt).cell (i := 0) (by omega)
                       clear ry4 by_ by0 kb
                       have tk4 : True := trivial)
                    | (clear tk4
                       go_at_call 49
                       refine (implMergeView_any _ n0 _ l0 _ n1 _ l1 _ n2 _ l2 _ n3 _ l3 _ n4 _ l4 _ (row_blks' le0.out y0.out) (row_ints le1.out y1.out) (row_votesB le2.out y2.out) (row_votesB le3.out y3.out) (row_votesB le4.out y4.out) hm0 hm1 hm2 hm3 hm4 (Nat.le_refl _) (fun e => by cases e) (Nat.le_refl _) (fun e => by cases e) (Nat.le_refl _) (fun e => by cases e)).mono ?_
                       rintro e we ⟨AX, nX, cX, AY, nY, cY, rfl, oe, oe2, hap, be⟩
                       try have gz := Lib.hid zb.out.lt
                       try replace zb := Lib.hid (rowIs_below zb.out be zb.out.lt)
                       have hB := Lib.hid ua3.out.size
                       try have hzb0 := row2_0 (zb.out)
                       try have hzf0 := zb.out.frozen 0
                       try have hzb1 := row2_1 (zb.out)
                       try have hzf1 := zb.out.frozen 1
                       have ye := Lib.hid oe
                       have ye2 := Lib.hid oe2
                       have yap := Lib.hid hap
                       have ue := Lib.hid (ua3.out.trans (be.mono ua3.out.size))
                       have hw_2_0 := row2_0 (rowIs_below xB2.out ue.out xB2.out.lt)
                       have hw_2_1 := row2_1 (rowIs_below xB2.out ue.out xB2.out.lt)
                       have hv_2_0 := row2_0 (rowIs_below (rowIs_below xB2.out ue.out xB2.out.lt) (bx_below we (.cells #[.slice AX nX cX, .slice AY nY cY] 63)) (rowIs_below xB2.out ue.out xB2.out.lt).lt)
                       have hv_2_1 := row2_1 (rowIs_below (rowIs_below xB2.out ue.out xB2.out.lt) (bx_below we (.cells #[.slice AX nX cX, .slice AY nY cY] 63)) (rowIs_below xB2.out ue.out xB2.out.lt).lt)
                       have hu_2_0 := row2_0 (rowIs_below (rowIs_below xB2.out ue.out xB2.out.lt) (bx_below we (.cells #[.slice none 0 0, .slice none 0 0] 63)) (rowIs_below xB2.out ue.out xB2.out.lt).lt)
                       have hu_2_1 := row2_1 (rowIs_below (rowIs_below xB2.out ue.out xB2.out.lt) (bx_below we (.cells #[.slice none 0 0, .slice none 0 0] 63)) (rowIs_below xB2.out ue.out xB2.out.lt).lt)
                       try have hs_2_0 := row2_0 (keep_set2 zb.out (rowIs_below xB2.out ue.out xB2.out.lt) (Nat.lt_of_lt_of_le xB2.out.lt lz.out) (.slice AX nX cX) (.slice AY nY cY))
                       try have hs_2_1 := row2_1 (keep_set2 zb.out (rowIs_below xB2.out ue.out xB2.out.lt) (Nat.lt_of_lt_of_le xB2.out.lt lz.out) (.slice AX nX cX) (.slice AY nY cY))
                       have hw_3_0 := (rowIs_below xB3.out ue.out xB3.out.lt).cell (i := 0) (by omega)
                       have hv_3_0 := (rowIs_below (rowIs_below xB3.out ue.out xB3.out.lt) (bx_below we (.cells #[.slice AX nX cX, .slice AY nY cY] 63)) (rowIs_below xB3.out ue.out xB3.out.lt).lt).cell (i := 0) (by omega)
                       have hu_3_0 := (rowIs_below (rowIs_below xB3.out ue.out xB3.out.lt) (bx_below we (.cells #[.slice none 0 0, .slice none 0 0] 63)) (rowIs_below xB3.out ue.out xB3.out.lt).lt).cell (i := 0) (by omega)
                       try have hs_3_0 := (keep_set2 zb.out (rowIs_below xB3.out ue.out xB3.out.lt) (Nat.lt_of_lt_of_le xB3.out.lt lz.out) (.slice AX nX cX) (.slice AY nY cY)).cell (i := 0) (by omega)
                       clear be oe oe2 hap)
                    | (clear tk4
                       go_at_call 49
                       have kb := bx_below wy3 (.cells #[.slice none 0 0, .slice none 0 0] 63)
                       refine (implMergeView_any _ n0 _ l0 _ n1 _ l1 _ n2 _ l2 _ n3 _ l3 _ n4 _ l4 _ (row_blks' le0.out (rowIs_below y0.out kb y0.out.lt)) (row_ints le1.out (rowIs_below y1.out kb y1.out.lt)) (row_votesB le2.out (rowIs_below y2.out kb y2.out.lt)) (row_votesB le3.out (rowIs_below y3.out kb y3.out.lt)) (row_votesB le4.out (rowIs_below y4.out kb y4.out.lt)) hm0 hm1 hm2 hm3 hm4 (Nat.le_refl _) (fun e => by cases e) (Nat.le_refl _) (fun e => by cases e) (Nat.le_refl _) (fun e => by cases e)).mono ?_
                       rintro e we ⟨AX, nX, cX, AY, nY, cY, rfl, oe, oe2, hap, be⟩
                       have zb := Lib.hid (rowIs_below (bx_row2 wy3 (.slice none 0 0) (.slice none 0 0) 63) be (by simp))
                       have lz := Lib.hid (show w22.heap.size ≤ wy3.heap.size from ua3.out.size)
                       have gz := Lib.hid (show wy3.heap.size < (wy3.alloc (.cells #[.slice none 0 0, .slice none 0 0] 63)).heap.size by simp)
                       have hB := Lib.hid (Nat.le_trans ua3.out.size kb.size)
                       have hzb0 := row2_0 (zb.out)
                       have hzf0 := zb.out.frozen 0
                       have hzb1 := row2_1 (zb.out)
                       have hzf1 := zb.out.frozen 1
                       have ye := Lib.hid oe
                       have ye2 := Lib.hid oe2
                       have yap := Lib.hid hap
                       have ue := Lib.hid (ua3.out.trans ((kb.trans (be.mono kb.size)).mono ua3.out.size))
                       have hw_2_0 := row2_0 (rowIs_below xB2.out ue.out xB2.out.lt)
                       have hw_2_1 := row2_1 (rowIs_below xB2.out ue.out xB2.out.lt)
                       have hv_2_0 := row2_0 (rowIs_below (rowIs_below xB2.out ue.out xB2.out.lt) (bx_below we (.cells #[.slice AX nX cX, .slice AY nY cY] 63)) (rowIs_below xB2.out ue.out xB2.out.lt).lt)
                       have hv_2_1 := row2_1 (rowIs_below (rowIs_below xB2.out ue.out xB2.out.lt) (bx_below we (.cells #[.slice AX nX cX, .slice AY nY cY] 63)) (rowIs_below xB2.out ue.out xB2.out.lt).lt)
                       have hu_2_0 := row2_0 (rowIs_below (rowIs_below xB2.out ue.out xB2.out.lt) (bx_below we (.cells #[.slice none 0 0, .slice none 0 0] 63)) (rowIs_below xB2.out ue.out xB2.out.lt).lt)
                       have hu_2_1 := row2_1 (rowIs_below (rowIs_below xB2.out ue.out xB2.out.lt) (bx_below we (.cells #[.slice none 0 0, .slice none 0 0] 63)) (rowIs_below xB2.out ue.out xB2.out.lt).lt)
                       have hs_2_0 := row2_0 (keep_set2 zb.out (rowIs_below xB2.out ue.out xB2.out.lt) (Nat.lt_of_lt_of_le xB2.out.lt lz.out) (.slice AX nX cX) (.slice AY nY cY))
                       have hs_2_1 := row2_1 (keep_set2 zb.out (rowIs_below xB2.out ue.out xB2.out.lt) (Nat.lt_of_lt_of_le xB2.out.lt lz.out) (.slice AX nX cX) (.slice AY nY cY))
                       have hw_3_0 := (rowIs_below xB3.out ue.out xB3.out.lt).cell (i := 0) (by omega)
                       have hv_3_0 := (rowIs_below (rowIs_below xB3.out ue.out xB3.out.lt) (bx_below we (.cells #[.slice AX nX cX, .slice AY nY cY] 63)) (rowIs_below xB3.out ue.out xB3.out.lt).lt).cell (i := 0) (by omega)
                       have hu_3_0 := (rowIs_below (rowIs_below xB3.out ue.out xB3.out.lt) (bx_below we (.cells #[.slice none 0 0, .slice none 0 0] 63)) (rowIs_below xB3.out ue.out xB3.out.lt).lt).cell (i := 0) (by omega)
                       have hs_3_0 := (keep_set2 zb.out (rowIs_below xB3.out ue.out xB3.out.lt) (Nat.lt_of_lt_of_le xB3.out.lt lz.out) (.slice AX nX cX) (.slice AY nY cY)).cell (i := 0) (by omega)
                       clear be oe oe2 hap kb))
                  all_goals
                    go_wp2_with fail
                    go_meet
                    case rel => first
                      | exact ⟨_, _, _, _, _, _, _, rfl, rfl, Lib.hid ((ye.out.below (bx_below we _)).fewer hB.out), Lib.hid ((ye2.out.below (bx_below we _)).fewer hB.out), yap, Lib.hid (bx_row2 we _ _ _), Lib.hid ue.out.size, Lib.hid (ue.out.trans ((bx_below we _).mono ue.out.size))⟩
                      | exact ⟨_, _, _, _, _, _, _, rfl, rfl, Lib.hid ((ye.out.setBox2 gz.out _ _).fewer hB.out), Lib.hid ((ye2.out.setBox2 gz.out _ _).fewer hB.out), yap, Lib.hid (row2_set zb.out _ _), Lib.hid lz.out, Lib.hid ((ue.out.setCell (p := ⟨_, 0, none⟩) lz.out _).setCell (p := ⟨_, 1, none⟩) lz.out _)⟩
                case rest =>
                  obtain ⟨AH, nH, cH, AI, nI, cI, gHB, rfl, rfl, yAH, yAI, apAH, xgHB, lgHB, k5⟩ := hcut
                  skip
                  have k6 := k5.out
                  clear k5
                  clear hcB2_0 hcB2_1 hcB3_0
                  have hnH : nH ≤ 100 := by rw [← yAH.out.len]; exact hlen0.out
                  have hnI : nI ≤ 100 := by rw [← yAI.out.len]; exact hlen1.out
                  replace u := Lib.hid (u.out.trans (k6.mono u.out.size))
                  replace sz := Lib.hid (Nat.le_trans sz.out k6.size)
                  replace xB2 := Lib.hid (rowIs_below xB2.out k6 xB2.out.lt)
                  replace xB3 := Lib.hid (rowIs_below xB3.out k6 xB3.out.lt)
                  replace yAM := Lib.hid (yAM.out.below k6)
                  replace yAN := Lib.hid (yAN.out.below k6)
                  replace xgMB := Lib.hid (rowIs_below xgMB.out k6 xgMB.out.lt)
                  replace xgPB := Lib.hid (rowIs_below xgPB.out k6 xgPB.out.lt)
                  replace yAP := Lib.hid (yAP.out.below k6)
                  replace yAQ := Lib.hid (yAQ.out.below k6)
                  clear k6
                  have hrgHB_0 := row2_0 (xgHB.out)
                  have hrgHB_1 := row2_1 (xgHB.out)
                  have hrgMB_0 := row2_0 (xgMB.out)
                  have hrgMB_1 := row2_1 (xgMB.out)
                  go_wp2_with fail
                  refine (eqView_b AH AM nH nM cH cM _ AI AN nI nN cI cN _ _ yAH.out.votes yAM.out.votes yAI.out.votes yAN.out.votes (by omega) (by omega) (by omega) (by omega)).mono ?_
                  rintro e w23 ⟨rfl, b23⟩
                  clear hrgHB_0 hrgHB_1 hrgMB_0 hrgMB_1
                  replace u := Lib.hid (u.out.trans (b23.mono u.out.size))
                  replace sz := Lib.hid (Nat.le_trans sz.out b23.size)
                  replace xB2 := Lib.hid (rowIs_below xB2.out b23 xB2.out.lt)
                  replace xB3 := Lib.hid (rowIs_below xB3.out b23 xB3.out.lt)
                  replace yAM := Lib.hid (yAM.out.below b23)
                  replace yAN := Lib.hid (yAN.out.below b23)
                  replace xgMB := Lib.hid (rowIs_below xgMB.out b23 xgMB.out.lt)
                  replace xgPB := Lib.hid (rowIs_below xgPB.out b23 xgPB.out.lt)
                  replace yAP := Lib.hid (yAP.out.below b23)
                  replace yAQ := Lib.hid (yAQ.out.below b23)
                  replace yAH := Lib.hid (yAH.out.below b23)
                  replace yAI := Lib.hid (yAI.out.below b23)
                  replace xgHB := Lib.hid (rowIs_below xgHB.out b23 xgHB.out.lt)
                  clear b23
                  have hrgPB_0 := row2_0 (xgPB.out)
                  have hrgPB_1 := row2_1 (xgPB.out)
                  go_wp2_with fail
                  refine (heldView_b AP nP cP AQ nQ cQ 1 _ yAP.out.votes yAQ.out.votes (by omega) (by omega) (by decide) (by decide)).mono ?_
                  rintro e w24 ⟨rfl, b24⟩
                  clear hrgPB_0 hrgPB_1
                  replace u := Lib.hid (u.out.trans (b24.mono u.out.size))
                  replace sz := Lib.hid (Nat.le_trans sz.out b24.size)
                  replace xB2 := Lib.hid (rowIs_below xB2.out b24 xB2.out.lt)
                  replace xB3 := Lib.hid (rowIs_below xB3.out b24 xB3.out.lt)
                  replace yAM := Lib.hid (yAM.out.below b24)
                  replace yAN := Lib.hid (yAN.out.below b24)
                  replace xgMB := Lib.hid (rowIs_below xgMB.out b24 xgMB.out.lt)
                  replace xgPB := Lib.hid (rowIs_below xgPB.out b24 xgPB.out.lt)
                  replace yAP := Lib.hid (yAP.out.below b24)
                  replace yAQ := Lib.hid (yAQ.out.below b24)
                  replace yAH := Lib.hid (yAH.out.below b24)
                  replace yAI := Lib.hid (yAI.out.below b24)
                  replace xgHB := Lib.hid (rowIs_below xgHB.out b24 xgHB.out.lt)
                  clear b24
                  go_wp2_with fail
                  go_ret
                  exact ⟨rfl, u.out⟩
        · skip
          have lf4 := Lib.hid (show (if (n4 : Int) ≤ 1048576 - (n0 : Int) - ((n2 : Int) + (n3 : Int)) then 1048576 - (n0 : Int) - ((n2 : Int) + (n3 : Int)) - (n4 : Int) else -1) = -1 from if_neg hz4)
          clear h0 h1 h2 h3 h4
          go_enter Try.func9, Try.ntmps9
          have tk0 : True := trivial
          go_wp2_with (first
            | (clear tk0; go_at_call 14; refine (szBlk_g _ n0 _ (1048576) _ hn0 (by omega) (by omega)).mono ?_; rintro e w' ⟨rfl, rfl⟩; rw [lf0.out]; have tk1 : True := trivial)
            | (clear tk1; go_at_call 37; refine (szView_g _ n2 _ _ n3 _ (1048576 - (n0 : Int)) _ hn2 hn3 (by omega) (by omega)).mono ?_; rintro e w2z ⟨rfl, bz⟩; rw [lf2.out]; replace u := Lib.hid (u.out.trans (bz.mono u.out.size)); replace sz := Lib.hid (Nat.le_trans sz.out bz.size); replace xB2 := Lib.hid (rowIs_below xB2.out bz xB2.out.lt); replace xB3 := Lib.hid (rowIs_below xB3.out bz xB3.out.lt); clear bz hcB2_0 hcB2_1 hcB3_0; have hcB2_0 := row2_0 (xB2.out); have hcB2_1 := row2_1 (xB2.out); have hcB3_0 := (xB3.out).cell (i := 0) (by omega); have tk2 : True := trivial)
            | (clear tk2; go_at_call 30; refine (szPool_g _ n4 _ (1048576 - (n0 : Int) - ((n2 : Int) + (n3 : Int))) _ hn4 (by omega) (by omega)).mono ?_; rintro e w4z ⟨rfl, bz⟩; rw [lf4.out]; replace u := Lib.hid (u.out.trans (bz.mono u.out.size)); replace sz := Lib.hid (Nat.le_trans sz.out bz.size); replace xB2 := Lib.hid (rowIs_below xB2.out bz xB2.out.lt); replace xB3 := Lib.hid (rowIs_below xB3.out bz xB3.out.lt); clear bz hcB2_0 hcB2_1 hcB3_0; have hcB2_0 := row2_0 (xB2.out); have hcB2_1 := row2_1 (xB2.out); have hcB3_0 := (xB3.out).cell (i := 0) (by omega); have tk3 : True := trivial))
          go_ret
          exact ⟨rfl, u.out⟩
      · skip
        have lf2 := Lib.hid (show (if ((n2 : Int) + (n3 : Int)) ≤ 1048576 - (n0 : Int) then 1048576 - (n0 : Int) - ((n2 : Int) + (n3 : Int)) else -1) = -1 from if_neg hz2)
        clear h0 h1 h2 h3 h4
        go_enter Try.func9, Try.ntmps9
        have tk0 : True := trivial
        go_wp2_with (first
          | (clear tk0; go_at_call 14; refine (szBlk_g _ n0 _ (1048576) _ hn0 (by omega) (by omega)).mono ?_; rintro e w' ⟨rfl, rfl⟩; rw [lf0.out]; have tk1 : True := trivial)
          | (clear tk1; go_at_call 37; refine (szView_g _ n2 _ _ n3 _ (1048576 - (n0 : Int)) _ hn2 hn3 (by omega) (by omega)).mono ?_; rintro e w2z ⟨rfl, bz⟩; rw [lf2.out]; replace u := Lib.hid (u.out.trans (bz.mono u.out.size)); replace sz := Lib.hid (Nat.le_trans sz.out bz.size); replace xB2 := Lib.hid (rowIs_below xB2.out bz xB2.out.lt); replace xB3 := Lib.hid (rowIs_below xB3.out bz xB3.out.lt); clear bz hcB2_0 hcB2_1 hcB3_0; have hcB2_0 := row2_0 (xB2.out); have hcB2_1 := row2_1 (xB2.out); have hcB3_0 := (xB3.out).cell (i := 0) (by omega); have tk2 : True := trivial))
        go_ret
        exact ⟨rfl, u.out⟩
    · skip
      have lf0 := Lib.hid (show (if (n0 : Int) ≤ 1048576 then 1048576 - (n0 : Int) else -1) = -1 from if_neg hz0)
      clear h0 h1 h2 h3 h4
      go_enter Try.func9, Try.ntmps9
      have tk0 : True := trivial
      go_wp2_with (first
        | (clear tk0; go_at_call 14; refine (szBlk_g _ n0 _ (1048576) _ hn0 (by omega) (by omega)).mono ?_; rintro e w' ⟨rfl, rfl⟩; rw [lf0.out]; have tk1 : True := trivial))
      go_ret
      exact ⟨rfl, u.out⟩
  · skip
    have hgt : (1048576 : Int) < (n1 : Int) := by omega
    clear h0 h1 h2 h3 h4
    go_enter Try.func9, Try.ntmps9
    go_wp2_with fail
    go_ret
    exact ⟨rfl, u.out⟩
end Go.Proofs.Ytlobjfipefibaaa
