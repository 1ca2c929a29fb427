/- What is proved here: the law on PutVote returns true at every argument, and writes nothing that was there. No conditions. -/
import Derived.Test.YtlobjfipefibaaaPutImpl
import Derived.Test.YtlobjfipefibaaaViewBox
import Derived.Deep.Cut
import Derived.Deep.CutRange
import Derived.Deep.RegionHeld3
namespace Go.Proofs.Ytlobjfipefibaaa
open Go.RowKit

set_option maxRecDepth 100000 in
set_option maxHeartbeats 64000000 in
theorem lawPutVote (A0 : Option Addr) (n0 c0 : Nat) (l0 : List Blk) (A1 : Option Addr) (n1 c1 : Nat) (l1 : List Int) (A2 : Option Addr) (n2 c2 : Nat) (l2 : List Vt) (j0 : Int) (j1 : Int) (j2 : Int) (w : World) (h0 : BlksAt w w.heap.size A0 n0 l0) (hn0 : n0 ≤ 140737488351232) (h1 : IntsAt w w.heap.size A1 n1 l1) (hn1 : n1 ≤ 140737488351232) (h2 : VotesAt w w.heap.size A2 n2 l2) (hn2 : n2 ≤ 9223372036854775807) :
    Calls Try.prog 4 #[.slice A0 n0 c0, .slice A1 n1 c1, .agg #[.slice A2 n2 c2], .agg #[.int .i64 j0, .int .i64 j1, .int .i64 j2]] w fun e w' => e = .returned (.bool true) ∧ Below w.heap.size w w' := by
  have u := Lib.hid (Below.refl w.heap.size w)
  have xB2 := Lib.hid (bx_row (w) (.slice A2 n2 c2) 46)
  replace u := Lib.hid (u.out.trans ((bx_below (w) (.cells #[.slice A2 n2 c2] 46)).mono u.out.size))
  replace xB2 := Lib.hid (rowIs_below xB2.out (bx_below ((w).alloc (.cells #[.slice A2 n2 c2] 46)) (.cells #[.int .i64 j0, .int .i64 j1, .int .i64 j2] 48)) xB2.out.lt)
  have xB3 := Lib.hid (bx_row3 ((w).alloc (.cells #[.slice A2 n2 c2] 46)) (.int .i64 j0) (.int .i64 j1) (.int .i64 j2) 48)
  replace u := Lib.hid (u.out.trans ((bx_below ((w).alloc (.cells #[.slice A2 n2 c2] 46)) (.cells #[.int .i64 j0, .int .i64 j1, .int .i64 j2] 48)).mono u.out.size))
  simp only [World.size_alloc] at xB3
  have sz := Lib.hid (show w.heap.size + 2 ≤ (((w).alloc (.cells #[.slice A2 n2 c2] 46)).alloc (.cells #[.int .i64 j0, .int .i64 j1, .int .i64 j2] 48)).heap.size by simp)
  have lo_xB2 := Lib.hid (show w.heap.size + 0 ≤ w.heap.size by omega)
  have hi_xB2 := Lib.hid (show w.heap.size < w.heap.size + 1 by omega)
  have lo_xB3 := Lib.hid (show w.heap.size + 1 ≤ (w.heap.size + 1) by omega)
  have hi_xB3 := Lib.hid (show (w.heap.size + 1) < w.heap.size + 2 by omega)
  have hcB2_0 := (xB2.out).cell (i := 0) (by omega)
  have hcB3_0 := row3_0 (xB3.out)
  have hcB3_1 := row3_1 (xB3.out)
  have hcB3_2 := row3_2 (xB3.out)
  by_cases hm1 : n1 ≤ 1048576
  · skip
    by_cases hz0 : (n0 : Int) ≤ 1048576
    · skip
      have hm0 : n0 ≤ 1048576 := by omega
      have lf0 := Lib.hid (show (if (n0 : Int) ≤ 1048576 then 1048576 - (n0 : Int) else -1) = 1048576 - (n0 : Int) from if_pos hz0)
      have lp0 : ¬ (1048576 - (n0 : Int) < 0) := by omega
      by_cases hz2 : (n2 : Int) ≤ 1048576 - (n0 : Int)
      · skip
        have hm2 : n2 ≤ 1048576 := by omega
        have lf2 := Lib.hid (show (if (n2 : Int) ≤ 1048576 - (n0 : Int) then 1048576 - (n0 : Int) - (n2 : Int) else -1) = 1048576 - (n0 : Int) - (n2 : Int) from if_pos hz2)
        have lp2 : ¬ (1048576 - (n0 : Int) - (n2 : Int) < 0) := by omega
        have le0 := Lib.hid h0.1; have ha0 := Lib.hid h0
        have le1 := Lib.hid h1.1; have ha1 := Lib.hid h1
        have le2 := Lib.hid h2.1; have ha2 := Lib.hid h2
        clear h0 h1 h2 hz0 hz2
        have hq0 : (putC l0 l1 l2 (j0, j1, j2) != putC l0 l1 l2 (j0, j1, j2)) = false := by simp
        have hq1 : (putOK l0 l1 l2 (j0, j1, j2) != putOK l0 l1 l2 (j0, j1, j2)) = false := by simp
        have hlen0 := Lib.hid (putR_len l0 l1 l2 (j0, j1, j2))
        go_enter Try.func4, Try.ntmps4
        have tk0 : True := trivial
        go_upto_region 10 with (first
          | (clear tk0; go_at_call 14; refine (szBlk_g _ n0 _ (1048576) _ hn0 (by omega) (by omega)).mono ?_; rintro e w' ⟨rfl, rfl⟩; rw [lf0.out]; have tk1 : True := trivial)
          | (clear tk1; go_at_call 30; refine (szPool_g _ n2 _ (1048576 - (n0 : Int)) _ hn2 (by omega) (by omega)).mono ?_; rintro e w2z ⟨rfl, bz⟩; rw [lf2.out]; replace u := Lib.hid (u.out.trans (bz.mono u.out.size)); replace sz := Lib.hid (Nat.le_trans sz.out bz.size); replace xB2 := Lib.hid (rowIs_below xB2.out bz xB2.out.lt); replace xB3 := Lib.hid (rowIs_below xB3.out bz xB3.out.lt); clear bz hcB2_0 hcB3_0 hcB3_1 hcB3_2; have hcB2_0 := (xB2.out).cell (i := 0) (by omega); have hcB3_0 := row3_0 (xB3.out); have hcB3_1 := row3_1 (xB3.out); have hcB3_2 := row3_2 (xB3.out); have tk2 : True := trivial))
        clear tk2
        go_cut [10, 11, 12] from 38 to 50 (fun s t r wx => ∃ AX nX cX pX, s = .pointer (some ⟨pX, 0, none⟩) ∧ t = .int .i64 (putC l0 l1 l2 (j0, j1, j2)) ∧ r = .bool (putOK l0 l1 l2 (j0, j1, j2)) ∧ Hid (OwnV wx w2z.heap.size AX nX (putR l0 l1 l2 (j0, j1, j2))) ∧ Hid (wx.rowIs pX 29 1 (fun _ => .slice AX nX cX)) ∧ Hid (w2z.heap.size ≤ pX) ∧ Hid (Below w2z.heap.size w2z wx))
        case first =>
          have tk0 : True := trivial
          have hz_2_0 := (rowIs_below (show w2z.drew.rowIs w.heap.size 46 1 (fun _ => .slice A2 n2 c2) from xB2.out) (bx_below w2z.drew (.cells #[.slice none 0 0] 29)) (show w.heap.size < w2z.drew.heap.size from xB2.out.lt)).cell (i := 0) (by omega)
          have hz_3_0 := row3_0 (rowIs_below (show w2z.drew.rowIs (w.heap.size + 1) 48 3 (fn3 (.int .i64 j0) (.int .i64 j1) (.int .i64 j2)) from xB3.out) (bx_below w2z.drew (.cells #[.slice none 0 0] 29)) (show (w.heap.size + 1) < w2z.drew.heap.size from xB3.out.lt))
          have hz_3_1 := row3_1 (rowIs_below (show w2z.drew.rowIs (w.heap.size + 1) 48 3 (fn3 (.int .i64 j0) (.int .i64 j1) (.int .i64 j2)) from xB3.out) (bx_below w2z.drew (.cells #[.slice none 0 0] 29)) (show (w.heap.size + 1) < w2z.drew.heap.size from xB3.out.lt))
          have hz_3_2 := row3_2 (rowIs_below (show w2z.drew.rowIs (w.heap.size + 1) 48 3 (fn3 (.int .i64 j0) (.int .i64 j1) (.int .i64 j2)) from xB3.out) (bx_below w2z.drew (.cells #[.slice none 0 0] 29)) (show (w.heap.size + 1) < w2z.drew.heap.size from xB3.out.lt))
          go_region_held3 (fun w' => w'.cell? ⟨w.heap.size, 0, none⟩ = some (.slice A2 n2 c2) ∧ w'.cell? ⟨(w.heap.size + 1), 0, none⟩ = some (.int .i64 j0) ∧ w'.cell? ⟨(w.heap.size + 1), 1, none⟩ = some (.int .i64 j1) ∧ w'.cell? ⟨(w.heap.size + 1), 2, none⟩ = some (.int .i64 j2)) (first | assumption | (refine ⟨?_, ?_, ?_, ?_⟩ <;> assumption) | go_keep) (first
            | (clear tk0
               go_at_call 17
               refine (toBlk_g A0 n0 c0 l0 _ (show BlksAt w2z.drew w2z.drew.heap.size A0 n0 l0 from ⟨(ha0.out.up u.out).1, (ha0.out.up u.out).2⟩) hm0).mono ?_
               rintro e wy0 ⟨gy0, rfl, ry0, by0, dy0, fy0⟩
               have by_ := by0
               have y0 := Lib.hid ry0
               have ua0 := Lib.hid (show Below w2z.heap.size w2z wy0 from ⟨by_.os, by_.tape, by_.output, by_.size, by_.block⟩)
               have hd0_2_0 := (rowIs_below xB2.out ua0.out xB2.out.lt).cell (i := 0) (by omega)
               have hd0_3_0 := row3_0 (rowIs_below xB3.out ua0.out xB3.out.lt)
               have hd0_3_1 := row3_1 (rowIs_below xB3.out ua0.out xB3.out.lt)
               have hd0_3_2 := row3_2 (rowIs_below xB3.out ua0.out xB3.out.lt)
               have he0_2_0 := (rowIs_below (rowIs_below xB2.out ua0.out xB2.out.lt) (bx_below wy0 (.cells #[.slice none 0 0] 29)) (rowIs_below xB2.out ua0.out xB2.out.lt).lt).cell (i := 0) (by omega)
               have he0_3_0 := row3_0 (rowIs_below (rowIs_below xB3.out ua0.out xB3.out.lt) (bx_below wy0 (.cells #[.slice none 0 0] 29)) (rowIs_below xB3.out ua0.out xB3.out.lt).lt)
               have he0_3_1 := row3_1 (rowIs_below (rowIs_below xB3.out ua0.out xB3.out.lt) (bx_below wy0 (.cells #[.slice none 0 0] 29)) (rowIs_below xB3.out ua0.out xB3.out.lt).lt)
               have he0_3_2 := row3_2 (rowIs_below (rowIs_below xB3.out ua0.out xB3.out.lt) (bx_below wy0 (.cells #[.slice none 0 0] 29)) (rowIs_below xB3.out ua0.out xB3.out.lt).lt)
               clear ry0 by_ by0
               have tk1 : True := trivial)
            | (clear tk0
               go_at_call 17
               have kb := bx_below w2z.drew (.cells #[.slice none 0 0] 29)
               refine (toBlk_g A0 n0 c0 l0 _ ((show BlksAt w2z.drew w2z.drew.heap.size A0 n0 l0 from ⟨(ha0.out.up u.out).1, (ha0.out.up u.out).2⟩).up kb) hm0).mono ?_
               rintro e wy0 ⟨gy0, rfl, ry0, by0, dy0, fy0⟩
               have zb := Lib.hid (show wy0.rowIs w2z.heap.size 29 1 (fun _ => .slice none 0 0) from rowIs_below (bx_row w2z.drew (.slice none 0 0) 29) by0 (by simp))
               have lz := Lib.hid (show w2z.heap.size ≤ w2z.heap.size from Nat.le_refl _)
               have by_ := kb.trans (by0.mono kb.size)
               have y0 := Lib.hid ry0
               have ua0 := Lib.hid (show Below w2z.heap.size w2z wy0 from ⟨by_.os, by_.tape, by_.output, by_.size, by_.block⟩)
               have hd0_2_0 := (rowIs_below xB2.out ua0.out xB2.out.lt).cell (i := 0) (by omega)
               have hd0_3_0 := row3_0 (rowIs_below xB3.out ua0.out xB3.out.lt)
               have hd0_3_1 := row3_1 (rowIs_below xB3.out ua0.out xB3.out.lt)
               have hd0_3_2 := row3_2 (rowIs_below xB3.out ua0.out xB3.out.lt)
               clear ry0 by_ by0 kb
               have tk1 : True := trivial)
            | (clear tk1
               go_at_call 18
               refine (toInt_g A1 n1 c1 l1 _ (ha1.out.up' (u.out.trans (ua0.out.mono u.out.size))) hm1).mono ?_
               rintro e wy1 ⟨gy1, rfl, ry1, by0, dy1, fy1⟩
               have by_ := by0
               try replace zb := Lib.hid (rowIs_below zb.out by_ zb.out.lt)
               have y1 := Lib.hid ry1
               replace y0 := Lib.hid (rowIs_below y0.out by_ y0.out.lt)
               have ua1 := Lib.hid (ua0.out.trans (by_.mono ua0.out.size))
               have hd1_2_0 := (rowIs_below xB2.out ua1.out xB2.out.lt).cell (i := 0) (by omega)
               have hd1_3_0 := row3_0 (rowIs_below xB3.out ua1.out xB3.out.lt)
               have hd1_3_1 := row3_1 (rowIs_below xB3.out ua1.out xB3.out.lt)
               have hd1_3_2 := row3_2 (rowIs_below xB3.out ua1.out xB3.out.lt)
               have he1_2_0 := (rowIs_below (rowIs_below xB2.out ua1.out xB2.out.lt) (bx_below wy1 (.cells #[.slice none 0 0] 29)) (rowIs_below xB2.out ua1.out xB2.out.lt).lt).cell (i := 0) (by omega)
               have he1_3_0 := row3_0 (rowIs_below (rowIs_below xB3.out ua1.out xB3.out.lt) (bx_below wy1 (.cells #[.slice none 0 0] 29)) (rowIs_below xB3.out ua1.out xB3.out.lt).lt)
               have he1_3_1 := row3_1 (rowIs_below (rowIs_below xB3.out ua1.out xB3.out.lt) (bx_below wy1 (.cells #[.slice none 0 0] 29)) (rowIs_below xB3.out ua1.out xB3.out.lt).lt)
               have he1_3_2 := row3_2 (rowIs_below (rowIs_below xB3.out ua1.out xB3.out.lt) (bx_below wy1 (.cells #[.slice none 0 0] 29)) (rowIs_below xB3.out ua1.out xB3.out.lt).lt)
               clear ry1 by_ by0
               have tk2 : True := trivial)
            | (clear tk1
               go_at_call 18
               have kb := bx_below wy0 (.cells #[.slice none 0 0] 29)
               refine (toInt_g A1 n1 c1 l1 _ (ha1.out.up' ((u.out.trans (ua0.out.mono u.out.size)).trans (kb.mono (u.out.trans (ua0.out.mono u.out.size)).size))) hm1).mono ?_
               rintro e wy1 ⟨gy1, rfl, ry1, by0, dy1, fy1⟩
               have zb := Lib.hid (show wy1.rowIs wy0.heap.size 29 1 (fun _ => .slice none 0 0) from rowIs_below (bx_row wy0 (.slice none 0 0) 29) by0 (by simp))
               have lz := Lib.hid (show w2z.heap.size ≤ wy0.heap.size from ua0.out.size)
               have by_ := kb.trans (by0.mono kb.size)
               have y1 := Lib.hid ry1
               replace y0 := Lib.hid (rowIs_below y0.out by_ y0.out.lt)
               have ua1 := Lib.hid (ua0.out.trans (by_.mono ua0.out.size))
               have hd1_2_0 := (rowIs_below xB2.out ua1.out xB2.out.lt).cell (i := 0) (by omega)
               have hd1_3_0 := row3_0 (rowIs_below xB3.out ua1.out xB3.out.lt)
               have hd1_3_1 := row3_1 (rowIs_below xB3.out ua1.out xB3.out.lt)
               have hd1_3_2 := row3_2 (rowIs_below xB3.out ua1.out xB3.out.lt)
               clear ry1 by_ by0 kb
               have tk2 : True := trivial)
            | (clear tk2
               go_at_call 32
               refine (toPool_g A2 n2 c2 l2 _ (ha2.out.up (u.out.trans (ua1.out.mono u.out.size))) hm2).mono ?_
               rintro e wy2 ⟨gy2, rfl, ry2, by0, dy2, fy2⟩
               have by_ := by0
               try replace zb := Lib.hid (rowIs_below zb.out by_ zb.out.lt)
               have y2 := Lib.hid ry2
               replace y0 := Lib.hid (rowIs_below y0.out by_ y0.out.lt)
               replace y1 := Lib.hid (rowIs_below y1.out by_ y1.out.lt)
               have ua2 := Lib.hid (ua1.out.trans (by_.mono ua1.out.size))
               have hd2_2_0 := (rowIs_below xB2.out ua2.out xB2.out.lt).cell (i := 0) (by omega)
               have hd2_3_0 := row3_0 (rowIs_below xB3.out ua2.out xB3.out.lt)
               have hd2_3_1 := row3_1 (rowIs_below xB3.out ua2.out xB3.out.lt)
               have hd2_3_2 := row3_2 (rowIs_below xB3.out ua2.out xB3.out.lt)
               have he2_2_0 := (rowIs_below (rowIs_below xB2.out ua2.out xB2.out.lt) (bx_below wy2 (.cells #[.slice none 0 0] 29)) (rowIs_below xB2.out ua2.out xB2.out.lt).lt).cell (i := 0) (by omega)
               have he2_3_0 := row3_0 (rowIs_below (rowIs_below xB3.out ua2.out xB3.out.lt) (bx_below wy2 (.cells #[.slice none 0 0] 29)) (rowIs_below xB3.out ua2.out xB3.out.lt).lt)
               have he2_3_1 := row3_1 (rowIs_below (rowIs_below xB3.out ua2.out xB3.out.lt) (bx_below wy2 (.cells #[.slice none 0 0] 29)) (rowIs_below xB3.out ua2.out xB3.out.lt).lt)
               have he2_3_2 := row3_2 (rowIs_below (rowIs_below xB3.out ua2.out xB3.out.lt) (bx_below wy2 (.cells #[.slice none 0 0] 29)) (rowIs_below xB3.out ua2.out xB3.out.lt).lt)
               clear ry2 by_ by0
               have tk3 : True := trivial)
            | (clear tk2
               go_at_call 32
               have kb := bx_below wy1 (.cells #[.slice none 0 0] 29)
               refine (toPool_g A2 n2 c2 l2 _ (ha2.out.up ((u.out.trans (ua1.out.mono u.out.size)).trans (kb.mono (u.out.trans (ua1.out.mono u.out.size)).size))) hm2).mono ?_
               rintro e wy2 ⟨gy2, rfl, ry2, by0, dy2, fy2⟩
               have zb := Lib.hid (show wy2.rowIs wy1.heap.size 29 1 (fun _ => .slice none 0 0) from rowIs_below (bx_row wy1 (.slice none 0 0) 29) by0 (by simp))
               have lz := Lib.hid (show w2z.heap.size ≤ wy1.heap.size from ua1.out.size)
               have by_ := kb.trans (by0.mono kb.size)
               have y2 := Lib.hid ry2
               replace y0 := Lib.hid (rowIs_below y0.out by_ y0.out.lt)
               replace y1 := Lib.hid (rowIs_below y1.out by_ y1.out.lt)
               have ua2 := Lib.hid (ua1.out.trans (by_.mono ua1.out.size))
               have hd2_2_0 := (rowIs_below xB2.out ua2.out xB2.out.lt).cell (i := 0) (by omega)
               have hd2_3_0 := row3_0 (rowIs_below xB3.out ua2.out xB3.out.lt)
               have hd2_3_1 := row3_1 (rowIs_below xB3.out ua2.out xB3.out.lt)
               have hd2_3_2 := row3_2 (rowIs_below xB3.out ua2.out xB3.out.lt)
               clear ry2 by_ by0 kb
               have tk3 : True := trivial)
            | (clear tk3
               go_at_call 33
               refine (toVote_any j0 j1 j2 _).mono ?_
               rintro e wy3 ⟨rfl, by0⟩
               have by_ := by0
               try replace zb := Lib.hid (rowIs_below zb.out by_ zb.out.lt)
               replace y0 := Lib.hid (rowIs_below y0.out by_ y0.out.lt)
               replace y1 := Lib.hid (rowIs_below y1.out by_ y1.out.lt)
               replace y2 := Lib.hid (rowIs_below y2.out by_ y2.out.lt)
               have ua3 := Lib.hid (ua2.out.trans (by_.mono ua2.out.size))
               have hd3_2_0 := (rowIs_below xB2.out ua3.out xB2.out.lt).cell (i := 0) (by omega)
               have hd3_3_0 := row3_0 (rowIs_below xB3.out ua3.out xB3.out.lt)
               have hd3_3_1 := row3_1 (rowIs_below xB3.out ua3.out xB3.out.lt)
               have hd3_3_2 := row3_2 (rowIs_below xB3.out ua3.out xB3.out.lt)
               have he3_2_0 := (rowIs_below (rowIs_below xB2.out ua3.out xB2.out.lt) (bx_below wy3 (.cells #[.slice none 0 0] 29)) (rowIs_below xB2.out ua3.out xB2.out.lt).lt).cell (i := 0) (by omega)
               have he3_3_0 := row3_0 (rowIs_below (rowIs_below xB3.out ua3.out xB3.out.lt) (bx_below wy3 (.cells #[.slice none 0 0] 29)) (rowIs_below xB3.out ua3.out xB3.out.lt).lt)
               have he3_3_1 := row3_1 (rowIs_below (rowIs_below xB3.out ua3.out xB3.out.lt) (bx_below wy3 (.cells #[.slice none 0 0] 29)) (rowIs_below xB3.out ua3.out xB3.out.lt).lt)
               have he3_3_2 := row3_2 (rowIs_below (rowIs_below xB3.out ua3.out xB3.out.lt) (bx_below wy3 (.cells #[.slice none 0 0] 29)) (rowIs_below xB3.out ua3.out xB3.out.lt).lt)
               clear  by_ by0
               have tk4 : True := trivial)
            | (clear tk3
               go_at_call 33
               have kb := bx_below wy2 (.cells #[.slice none 0 0] 29)
               refine (toVote_any j0 j1 j2 _).mono ?_
               rintro e wy3 ⟨rfl, by0⟩
               have zb := Lib.hid (show wy3.rowIs wy2.heap.size 29 1 (fun _ => .slice none 0 0) from rowIs_below (bx_row wy2 (.slice none 0 0) 29) by0 (by simp))
               have lz := Lib.hid (show w2z.heap.size ≤ wy2.heap.size from ua2.out.size)
               have by_ := kb.trans (by0.mono kb.size)
               replace y0 := Lib.hid (rowIs_below y0.out by_ y0.out.lt)
               replace y1 := Lib.hid (rowIs_below y1.out by_ y1.out.lt)
               replace y2 := Lib.hid (rowIs_below y2.out by_ y2.out.lt)
               have ua3 := Lib.hid (ua2.out.trans (by_.mono ua2.out.size))
               have hd3_2_0 := (rowIs_below xB2.out ua3.out xB2.out.lt).cell (i := 0) (by omega)
               have hd3_3_0 := row3_0 (rowIs_below xB3.out ua3.out xB3.out.lt)
               have hd3_3_1 := row3_1 (rowIs_below xB3.out ua3.out xB3.out.lt)
               have hd3_3_2 := row3_2 (rowIs_below xB3.out ua3.out xB3.out.lt)
               clear  by_ by0 kb
               have tk4 : True := trivial)
            | (clear tk4
               go_at_call 31
               refine (specPutVote_any _ n0 _ l0 _ n1 _ l1 _ n2 _ l2 j0 j1 j2 _ (row_blks' le0.out y0.out) (row_ints le1.out y1.out) (row_votesB le2.out y2.out) hm0 hm1 hm2 (Nat.le_refl _) (fun e => by cases e)).mono ?_
               rintro e we ⟨AX, nX, cX, rfl, oe, be⟩
               try have gz := Lib.hid zb.out.lt
               try replace zb := Lib.hid (rowIs_below zb.out be zb.out.lt)
               have hB := Lib.hid ua3.out.size
               try have hzb0 := (zb.out).cell (i := 0) (by omega)
               try have hzf0 := zb.out.frozen 0
               have ye := Lib.hid oe
               have ue := Lib.hid (ua3.out.trans (be.mono ua3.out.size))
               have hw_2_0 := (rowIs_below xB2.out ue.out xB2.out.lt).cell (i := 0) (by omega)
               have hv_2_0 := (rowIs_below (rowIs_below xB2.out ue.out xB2.out.lt) (bx_below we (.cells #[.slice AX nX cX] 29)) (rowIs_below xB2.out ue.out xB2.out.lt).lt).cell (i := 0) (by omega)
               have hu_2_0 := (rowIs_below (rowIs_below xB2.out ue.out xB2.out.lt) (bx_below we (.cells #[.slice none 0 0] 29)) (rowIs_below xB2.out ue.out xB2.out.lt).lt).cell (i := 0) (by omega)
               try have hs_2_0 := ((rowIs_below xB2.out ue.out xB2.out.lt).setOther (a := ⟨_, 0, none⟩) (Nat.ne_of_lt (Nat.lt_of_lt_of_le xB2.out.lt lz.out)) (.slice AX nX cX)).cell (i := 0) (by omega)
               have hw_3_0 := row3_0 (rowIs_below xB3.out ue.out xB3.out.lt)
               have hw_3_1 := row3_1 (rowIs_below xB3.out ue.out xB3.out.lt)
               have hw_3_2 := row3_2 (rowIs_below xB3.out ue.out xB3.out.lt)
               have hv_3_0 := row3_0 (rowIs_below (rowIs_below xB3.out ue.out xB3.out.lt) (bx_below we (.cells #[.slice AX nX cX] 29)) (rowIs_below xB3.out ue.out xB3.out.lt).lt)
               have hv_3_1 := row3_1 (rowIs_below (rowIs_below xB3.out ue.out xB3.out.lt) (bx_below we (.cells #[.slice AX nX cX] 29)) (rowIs_below xB3.out ue.out xB3.out.lt).lt)
               have hv_3_2 := row3_2 (rowIs_below (rowIs_below xB3.out ue.out xB3.out.lt) (bx_below we (.cells #[.slice AX nX cX] 29)) (rowIs_below xB3.out ue.out xB3.out.lt).lt)
               have hu_3_0 := row3_0 (rowIs_below (rowIs_below xB3.out ue.out xB3.out.lt) (bx_below we (.cells #[.slice none 0 0] 29)) (rowIs_below xB3.out ue.out xB3.out.lt).lt)
               have hu_3_1 := row3_1 (rowIs_below (rowIs_below xB3.out ue.out xB3.out.lt) (bx_below we (.cells #[.slice none 0 0] 29)) (rowIs_below xB3.out ue.out xB3.out.lt).lt)
               have hu_3_2 := row3_2 (rowIs_below (rowIs_below xB3.out ue.out xB3.out.lt) (bx_below we (.cells #[.slice none 0 0] 29)) (rowIs_below xB3.out ue.out xB3.out.lt).lt)
               try have hs_3_0 := row3_0 ((rowIs_below xB3.out ue.out xB3.out.lt).setOther (a := ⟨_, 0, none⟩) (Nat.ne_of_lt (Nat.lt_of_lt_of_le xB3.out.lt lz.out)) (.slice AX nX cX))
               try have hs_3_1 := row3_1 ((rowIs_below xB3.out ue.out xB3.out.lt).setOther (a := ⟨_, 0, none⟩) (Nat.ne_of_lt (Nat.lt_of_lt_of_le xB3.out.lt lz.out)) (.slice AX nX cX))
               try have hs_3_2 := row3_2 ((rowIs_below xB3.out ue.out xB3.out.lt).setOther (a := ⟨_, 0, none⟩) (Nat.ne_of_lt (Nat.lt_of_lt_of_le xB3.out.lt lz.out)) (.slice AX nX cX))
               clear be oe)
            | (clear tk4
               go_at_call 31
               have kb := bx_below wy3 (.cells #[.slice none 0 0] 29)
               refine (specPutVote_any _ n0 _ l0 _ n1 _ l1 _ n2 _ l2 j0 j1 j2 _ (row_blks' le0.out (rowIs_below y0.out kb y0.out.lt)) (row_ints le1.out (rowIs_below y1.out kb y1.out.lt)) (row_votesB le2.out (rowIs_below y2.out kb y2.out.lt)) hm0 hm1 hm2 (Nat.le_refl _) (fun e => by cases e)).mono ?_
               rintro e we ⟨AX, nX, cX, rfl, oe, be⟩
               have zb := Lib.hid (rowIs_below (bx_row wy3 (.slice none 0 0) 29) be (by simp))
               have lz := Lib.hid (show w2z.heap.size ≤ wy3.heap.size from ua3.out.size)
               have gz := Lib.hid (show wy3.heap.size < (wy3.alloc (.cells #[.slice none 0 0] 29)).heap.size by simp)
               have hB := Lib.hid (Nat.le_trans ua3.out.size kb.size)
               have hzb0 := (zb.out).cell (i := 0) (by omega)
               have hzf0 := zb.out.frozen 0
               have ye := Lib.hid oe
               have ue := Lib.hid (ua3.out.trans ((kb.trans (be.mono kb.size)).mono ua3.out.size))
               have hw_2_0 := (rowIs_below xB2.out ue.out xB2.out.lt).cell (i := 0) (by omega)
               have hv_2_0 := (rowIs_below (rowIs_below xB2.out ue.out xB2.out.lt) (bx_below we (.cells #[.slice AX nX cX] 29)) (rowIs_below xB2.out ue.out xB2.out.lt).lt).cell (i := 0) (by omega)
               have hu_2_0 := (rowIs_below (rowIs_below xB2.out ue.out xB2.out.lt) (bx_below we (.cells #[.slice none 0 0] 29)) (rowIs_below xB2.out ue.out xB2.out.lt).lt).cell (i := 0) (by omega)
               have hs_2_0 := ((rowIs_below xB2.out ue.out xB2.out.lt).setOther (a := ⟨_, 0, none⟩) (Nat.ne_of_lt (Nat.lt_of_lt_of_le xB2.out.lt lz.out)) (.slice AX nX cX)).cell (i := 0) (by omega)
               have hw_3_0 := row3_0 (rowIs_below xB3.out ue.out xB3.out.lt)
               have hw_3_1 := row3_1 (rowIs_below xB3.out ue.out xB3.out.lt)
               have hw_3_2 := row3_2 (rowIs_below xB3.out ue.out xB3.out.lt)
               have hv_3_0 := row3_0 (rowIs_below (rowIs_below xB3.out ue.out xB3.out.lt) (bx_below we (.cells #[.slice AX nX cX] 29)) (rowIs_below xB3.out ue.out xB3.out.lt).lt)
               have hv_3_1 := row3_1 (rowIs_below (rowIs_below xB3.out ue.out xB3.out.lt) (bx_below we (.cells #[.slice AX nX cX] 29)) (rowIs_below xB3.out ue.out xB3.out.lt).lt)
               have hv_3_2 := row3_2 (rowIs_below (rowIs_below xB3.out ue.out xB3.out.lt) (bx_below we (.cells #[.slice AX nX cX] 29)) (rowIs_below xB3.out ue.out xB3.out.lt).lt)
               have hu_3_0 := row3_0 (rowIs_below (rowIs_below xB3.out ue.out xB3.out.lt) (bx_below we (.cells #[.slice none 0 0] 29)) (rowIs_below xB3.out ue.out xB3.out.lt).lt)
               have hu_3_1 := row3_1 (rowIs_below (rowIs_below xB3.out ue.out xB3.out.lt) (bx_below we (.cells #[.slice none 0 0] 29)) (rowIs_below xB3.out ue.out xB3.out.lt).lt)
               have hu_3_2 := row3_2 (rowIs_below (rowIs_below xB3.out ue.out xB3.out.lt) (bx_below we (.cells #[.slice none 0 0] 29)) (rowIs_below xB3.out ue.out xB3.out.lt).lt)
               have hs_3_0 := row3_0 ((rowIs_below xB3.out ue.out xB3.out.lt).setOther (a := ⟨_, 0, none⟩) (Nat.ne_of_lt (Nat.lt_of_lt_of_le xB3.out.lt lz.out)) (.slice AX nX cX))
               have hs_3_1 := row3_1 ((rowIs_below xB3.out ue.out xB3.out.lt).setOther (a := ⟨_, 0, none⟩) (Nat.ne_of_lt (Nat.lt_of_lt_of_le xB3.out.lt lz.out)) (.slice AX nX cX))
               have hs_3_2 := row3_2 ((rowIs_below xB3.out ue.out xB3.out.lt).setOther (a := ⟨_, 0, none⟩) (Nat.ne_of_lt (Nat.lt_of_lt_of_le xB3.out.lt lz.out)) (.slice AX nX cX))
               clear be oe kb))
          all_goals
            go_wp2_with fail
            go_meet
            case rel => first
              | exact ⟨_, _, _, _, rfl, rfl, rfl, Lib.hid ((ye.out.below (bx_below we _)).fewer hB.out), Lib.hid (bx_row we _ _), Lib.hid ue.out.size, Lib.hid (ue.out.trans ((bx_below we _).mono ue.out.size))⟩
              | exact ⟨_, _, _, _, rfl, rfl, rfl, Lib.hid ((ye.out.setBox gz.out _).fewer hB.out), Lib.hid ((zb.out.set 0 _).congr (fun i hi => by rw [if_pos (by omega)])), Lib.hid lz.out, Lib.hid (ue.out.setCell (p := ⟨_, 0, none⟩) lz.out _)⟩
        case rest =>
          obtain ⟨AM, nM, cM, gMB, rfl, rfl, rfl, yAM, xgMB, lgMB, k5⟩ := hcut
          skip
          have k6 := k5.out
          clear k5
          clear hcB2_0 hcB3_0 hcB3_1 hcB3_2
          have hnM : nM ≤ 100 := by rw [← yAM.out.len]; exact hlen0.out
          have lo_yAM := Lib.hid (fun ad (e : AM = some ad) => Nat.le_trans sz.out (yAM.out.low ad e).1)
          have hi_yAM := Lib.hid (fun ad (e : AM = some ad) => (yAM.out.low ad e).2)
          have mo_yAM := Lib.hid (Nat.le_trans sz.out k6.size)
          have lo_xgMB := Lib.hid (Nat.le_trans sz.out lgMB.out)
          have hi_xgMB := Lib.hid xgMB.out.lt
          replace u := Lib.hid (u.out.trans (k6.mono u.out.size))
          replace sz := Lib.hid (Nat.le_trans sz.out k6.size)
          replace xB2 := Lib.hid (rowIs_below xB2.out k6 xB2.out.lt)
          replace xB3 := Lib.hid (rowIs_below xB3.out k6 xB3.out.lt)
          clear k6
          clear sz
          have sz := Lib.hid (Nat.le_refl wc.heap.size)
          go_wp2_with fail
          refine (toBlk_g A0 n0 c0 l0 _ (ha0.out.up u.out) hm0).mono ?_
          rintro e w6 ⟨g0, rfl, r0, b6, d0, f0⟩
          have x0 := Lib.hid r0; clear r0
          have lo_x0 := Lib.hid (Nat.le_trans sz.out d0); have hi_x0 := Lib.hid f0; clear d0 f0
          replace u := Lib.hid (u.out.trans (b6.mono u.out.size))
          replace sz := Lib.hid (Nat.le_trans sz.out b6.size)
          replace xB2 := Lib.hid (rowIs_below xB2.out b6 xB2.out.lt)
          replace xB3 := Lib.hid (rowIs_below xB3.out b6 xB3.out.lt)
          replace yAM := Lib.hid (yAM.out.below b6)
          replace xgMB := Lib.hid (rowIs_below xgMB.out b6 xgMB.out.lt)
          clear b6
          clear sz
          have sz := Lib.hid (Nat.le_refl w6.heap.size)
          go_wp2_with fail
          refine (toInt_g A1 n1 c1 l1 _ (ha1.out.up' u.out) hm1).mono ?_
          rintro e w7 ⟨g1, rfl, r1, b7, d1, f1⟩
          have x1 := Lib.hid r1; clear r1
          have lo_x1 := Lib.hid (Nat.le_trans sz.out d1); have hi_x1 := Lib.hid f1; clear d1 f1
          replace u := Lib.hid (u.out.trans (b7.mono u.out.size))
          replace sz := Lib.hid (Nat.le_trans sz.out b7.size)
          replace xB2 := Lib.hid (rowIs_below xB2.out b7 xB2.out.lt)
          replace xB3 := Lib.hid (rowIs_below xB3.out b7 xB3.out.lt)
          replace yAM := Lib.hid (yAM.out.below b7)
          replace xgMB := Lib.hid (rowIs_below xgMB.out b7 xgMB.out.lt)
          replace x0 := Lib.hid (rowIs_below x0.out b7 x0.out.lt)
          clear b7
          clear sz
          have sz := Lib.hid (Nat.le_refl w7.heap.size)
          have hcB2_0 := (xB2.out).cell (i := 0) (by omega)
          go_wp2_with fail
          refine (toPool_g A2 n2 c2 l2 _ (ha2.out.up u.out) hm2).mono ?_
          rintro e w8 ⟨g2, rfl, r2, b8, d2, f2⟩
          clear hcB2_0
          have x2 := Lib.hid r2; clear r2
          have lo_x2 := Lib.hid (Nat.le_trans sz.out d2); have hi_x2 := Lib.hid f2; clear d2 f2
          replace u := Lib.hid (u.out.trans (b8.mono u.out.size))
          replace sz := Lib.hid (Nat.le_trans sz.out b8.size)
          replace xB2 := Lib.hid (rowIs_below xB2.out b8 xB2.out.lt)
          replace xB3 := Lib.hid (rowIs_below xB3.out b8 xB3.out.lt)
          replace yAM := Lib.hid (yAM.out.below b8)
          replace xgMB := Lib.hid (rowIs_below xgMB.out b8 xgMB.out.lt)
          replace x0 := Lib.hid (rowIs_below x0.out b8 x0.out.lt)
          replace x1 := Lib.hid (rowIs_below x1.out b8 x1.out.lt)
          clear b8
          clear sz
          have sz := Lib.hid (Nat.le_refl w8.heap.size)
          have xb2 := Lib.hid (bx_row w8 (.slice (some ⟨g2, 0, none⟩) n2 n2) 29)
          have kk : Below w8.heap.size w8 (w8.alloc (.cells #[.slice (some ⟨g2, 0, none⟩) n2 n2] 29)) := bx_below w8 _
          have lo_xb2 := Lib.hid (Nat.le_refl w8.heap.size); have hi_xb2 := Lib.hid (Nat.lt_succ_self w8.heap.size)
          replace u := Lib.hid (u.out.trans (kk.mono u.out.size))
          replace sz := Lib.hid (Nat.le_trans sz.out kk.size)
          replace xB2 := Lib.hid (rowIs_below xB2.out kk xB2.out.lt)
          replace xB3 := Lib.hid (rowIs_below xB3.out kk xB3.out.lt)
          replace yAM := Lib.hid (yAM.out.below kk)
          replace xgMB := Lib.hid (rowIs_below xgMB.out kk xgMB.out.lt)
          replace x0 := Lib.hid (rowIs_below x0.out kk x0.out.lt)
          replace x1 := Lib.hid (rowIs_below x1.out kk x1.out.lt)
          replace x2 := Lib.hid (rowIs_below x2.out kk x2.out.lt)
          clear kk
          clear sz
          have sz := Lib.hid (show w8.heap.size + 1 ≤ (w8.alloc (.cells #[.slice (some ⟨g2, 0, none⟩) n2 n2] 29)).heap.size by simp)
          have hcX2_0 := (xb2.out).cell (i := 0) (by omega)
          have hcB2_0 := (xB2.out).cell (i := 0) (by omega)
          have hcB3_0 := row3_0 (xB3.out)
          have hcB3_1 := row3_1 (xB3.out)
          have hcB3_2 := row3_2 (xB3.out)
          go_upto_region 14 with fail
          obtain ⟨WX, hWX⟩ : ∃ WX, (w8.alloc (.cells #[.slice (some ⟨g2, 0, none⟩) n2 n2] 29)) = WX := ⟨_, rfl⟩
          try rw [hWX] at u
          try rw [hWX] at sz
          try rw [hWX] at xB2
          try rw [hWX] at xB3
          try rw [hWX] at yAM
          try rw [hWX] at xgMB
          try rw [hWX] at x0
          try rw [hWX] at x1
          try rw [hWX] at x2
          try rw [hWX] at xb2
          try rw [hWX] at hcB2_0
          try rw [hWX] at hcB3_0
          try rw [hWX] at hcB3_1
          try rw [hWX] at hcB3_2
          try rw [hWX] at hcX2_0
          try rw [hWX]
          clear hWX
          go_cut [16, 17, 18] from 57 to 66 (fun s t r wx => ∃ AX nX cX pX, s = .pointer (some ⟨pX, 0, none⟩) ∧ t = .int .i64 (putC l0 l1 l2 (j0, j1, j2)) ∧ r = .bool (putOK l0 l1 l2 (j0, j1, j2)) ∧ Hid (OwnV wx WX.heap.size AX nX (putR l0 l1 l2 (j0, j1, j2))) ∧ Hid (wx.rowIs pX 29 1 (fun _ => .slice AX nX cX)) ∧ Hid (WX.heap.size ≤ pX) ∧ Hid (Below WX.heap.size WX wx) ∧ Hid (∀ ad, AX = some ad → ad.block ≠ pX))
          case first =>
            have tk0 : True := trivial
            have hz_2_0 := (rowIs_below (show WX.drew.rowIs w.heap.size 46 1 (fun _ => .slice A2 n2 c2) from xB2.out) (bx_below WX.drew (.cells #[.slice none 0 0] 29)) (show w.heap.size < WX.drew.heap.size from xB2.out.lt)).cell (i := 0) (by omega)
            have hz_3_0 := row3_0 (rowIs_below (show WX.drew.rowIs (w.heap.size + 1) 48 3 (fn3 (.int .i64 j0) (.int .i64 j1) (.int .i64 j2)) from xB3.out) (bx_below WX.drew (.cells #[.slice none 0 0] 29)) (show (w.heap.size + 1) < WX.drew.heap.size from xB3.out.lt))
            have hz_3_1 := row3_1 (rowIs_below (show WX.drew.rowIs (w.heap.size + 1) 48 3 (fn3 (.int .i64 j0) (.int .i64 j1) (.int .i64 j2)) from xB3.out) (bx_below WX.drew (.cells #[.slice none 0 0] 29)) (show (w.heap.size + 1) < WX.drew.heap.size from xB3.out.lt))
            have hz_3_2 := row3_2 (rowIs_below (show WX.drew.rowIs (w.heap.size + 1) 48 3 (fn3 (.int .i64 j0) (.int .i64 j1) (.int .i64 j2)) from xB3.out) (bx_below WX.drew (.cells #[.slice none 0 0] 29)) (show (w.heap.size + 1) < WX.drew.heap.size from xB3.out.lt))
            have hy_2_0 := (rowIs_below (show WX.drew.rowIs w8.heap.size 29 1 (fun _ => .slice (some ⟨g2, 0, none⟩) n2 n2) from xb2.out) (bx_below WX.drew (.cells #[.slice none 0 0] 29)) (show w8.heap.size < WX.drew.heap.size from xb2.out.lt)).cell (i := 0) (by omega)
            go_region_held3 (fun w' => w'.cell? ⟨(w.heap.size + 1), 0, none⟩ = some (.int .i64 j0) ∧ w'.cell? ⟨(w.heap.size + 1), 1, none⟩ = some (.int .i64 j1) ∧ w'.cell? ⟨(w.heap.size + 1), 2, none⟩ = some (.int .i64 j2) ∧ w'.cell? ⟨w8.heap.size, 0, none⟩ = some (.slice (some ⟨g2, 0, none⟩) n2 n2)) (first | assumption | (refine ⟨?_, ?_, ?_, ?_⟩ <;> assumption) | go_keep) (first
              | (clear tk0
                 go_at_call 33
                 refine (toVote_any j0 j1 j2 _).mono ?_
                 rintro e wy0 ⟨rfl, by0⟩
                 have by_ := by0
                 have ua0 := Lib.hid (show Below WX.heap.size WX wy0 from ⟨by_.os, by_.tape, by_.output, by_.size, by_.block⟩)
                 have hd0_2_0 := (rowIs_below xB2.out ua0.out xB2.out.lt).cell (i := 0) (by omega)
                 have hd0_3_0 := row3_0 (rowIs_below xB3.out ua0.out xB3.out.lt)
                 have hd0_3_1 := row3_1 (rowIs_below xB3.out ua0.out xB3.out.lt)
                 have hd0_3_2 := row3_2 (rowIs_below xB3.out ua0.out xB3.out.lt)
                 have hx0_2_0 := (rowIs_below xb2.out ua0.out xb2.out.lt).cell (i := 0) (by omega)
                 have he0_2_0 := (rowIs_below (rowIs_below xB2.out ua0.out xB2.out.lt) (bx_below wy0 (.cells #[.slice none 0 0] 29)) (rowIs_below xB2.out ua0.out xB2.out.lt).lt).cell (i := 0) (by omega)
                 have he0_3_0 := row3_0 (rowIs_below (rowIs_below xB3.out ua0.out xB3.out.lt) (bx_below wy0 (.cells #[.slice none 0 0] 29)) (rowIs_below xB3.out ua0.out xB3.out.lt).lt)
                 have he0_3_1 := row3_1 (rowIs_below (rowIs_below xB3.out ua0.out xB3.out.lt) (bx_below wy0 (.cells #[.slice none 0 0] 29)) (rowIs_below xB3.out ua0.out xB3.out.lt).lt)
                 have he0_3_2 := row3_2 (rowIs_below (rowIs_below xB3.out ua0.out xB3.out.lt) (bx_below wy0 (.cells #[.slice none 0 0] 29)) (rowIs_below xB3.out ua0.out xB3.out.lt).lt)
                 have hf0_2_0 := (rowIs_below (rowIs_below xb2.out ua0.out xb2.out.lt) (bx_below wy0 (.cells #[.slice none 0 0] 29)) (rowIs_below xb2.out ua0.out xb2.out.lt).lt).cell (i := 0) (by omega)
                 clear  by_ by0
                 have tk1 : True := trivial)
              | (clear tk0
                 go_at_call 33
                 have kb := bx_below WX.drew (.cells #[.slice none 0 0] 29)
                 refine (toVote_any j0 j1 j2 _).mono ?_
                 rintro e wy0 ⟨rfl, by0⟩
                 have zb := Lib.hid (show wy0.rowIs WX.heap.size 29 1 (fun _ => .slice none 0 0) from rowIs_below (bx_row WX.drew (.slice none 0 0) 29) by0 (by simp))
                 have lz := Lib.hid (show WX.heap.size ≤ WX.heap.size from Nat.le_refl _)
                 have by_ := kb.trans (by0.mono kb.size)
                 have ua0 := Lib.hid (show Below WX.heap.size WX wy0 from ⟨by_.os, by_.tape, by_.output, by_.size, by_.block⟩)
                 have hd0_2_0 := (rowIs_below xB2.out ua0.out xB2.out.lt).cell (i := 0) (by omega)
                 have hd0_3_0 := row3_0 (rowIs_below xB3.out ua0.out xB3.out.lt)
                 have hd0_3_1 := row3_1 (rowIs_below xB3.out ua0.out xB3.out.lt)
                 have hd0_3_2 := row3_2 (rowIs_below xB3.out ua0.out xB3.out.lt)
                 have hx0_2_0 := (rowIs_below xb2.out ua0.out xb2.out.lt).cell (i := 0) (by omega)
                 clear  by_ by0 kb
                 have tk1 : True := trivial)
              | (clear tk1
                 go_at_call 34
                 refine (implPutVoteX_any _ n0 _ l0 _ n1 _ l1 _ n2 _ l2 j0 j1 j2 _ (row_blks' le0.out (rowIs_below x0.out ua0.out x0.out.lt)) (row_ints le1.out (rowIs_below x1.out ua0.out x1.out.lt)) (row_votesB le2.out (rowIs_below x2.out ua0.out x2.out.lt)) hm0 hm1 hm2 (Nat.le_refl _) (fun e => by cases e)).mono ?_
                 rintro e we ⟨AX, nX, cX, rfl, oe, be⟩
                 try have gz := Lib.hid zb.out.lt
                 try replace zb := Lib.hid (rowIs_below zb.out be zb.out.lt)
                 have hB := Lib.hid ua0.out.size
                 try have hzb0 := (zb.out).cell (i := 0) (by omega)
                 try have hzf0 := zb.out.frozen 0
                 have ye := Lib.hid oe
                 have ue := Lib.hid (ua0.out.trans (be.mono ua0.out.size))
                 have hw_2_0 := (rowIs_below xB2.out ue.out xB2.out.lt).cell (i := 0) (by omega)
                 have hv_2_0 := (rowIs_below (rowIs_below xB2.out ue.out xB2.out.lt) (bx_below we (.cells #[.slice AX nX cX] 29)) (rowIs_below xB2.out ue.out xB2.out.lt).lt).cell (i := 0) (by omega)
                 have hu_2_0 := (rowIs_below (rowIs_below xB2.out ue.out xB2.out.lt) (bx_below we (.cells #[.slice none 0 0] 29)) (rowIs_below xB2.out ue.out xB2.out.lt).lt).cell (i := 0) (by omega)
                 try have hs_2_0 := ((rowIs_below xB2.out ue.out xB2.out.lt).setOther (a := ⟨_, 0, none⟩) (Nat.ne_of_lt (Nat.lt_of_lt_of_le xB2.out.lt lz.out)) (.slice AX nX cX)).cell (i := 0) (by omega)
                 have hw_3_0 := row3_0 (rowIs_below xB3.out ue.out xB3.out.lt)
                 have hw_3_1 := row3_1 (rowIs_below xB3.out ue.out xB3.out.lt)
                 have hw_3_2 := row3_2 (rowIs_below xB3.out ue.out xB3.out.lt)
                 have hv_3_0 := row3_0 (rowIs_below (rowIs_below xB3.out ue.out xB3.out.lt) (bx_below we (.cells #[.slice AX nX cX] 29)) (rowIs_below xB3.out ue.out xB3.out.lt).lt)
                 have hv_3_1 := row3_1 (rowIs_below (rowIs_below xB3.out ue.out xB3.out.lt) (bx_below we (.cells #[.slice AX nX cX] 29)) (rowIs_below xB3.out ue.out xB3.out.lt).lt)
                 have hv_3_2 := row3_2 (rowIs_below (rowIs_below xB3.out ue.out xB3.out.lt) (bx_below we (.cells #[.slice AX nX cX] 29)) (rowIs_below xB3.out ue.out xB3.out.lt).lt)
                 have hu_3_0 := row3_0 (rowIs_below (rowIs_below xB3.out ue.out xB3.out.lt) (bx_below we (.cells #[.slice none 0 0] 29)) (rowIs_below xB3.out ue.out xB3.out.lt).lt)
                 have hu_3_1 := row3_1 (rowIs_below (rowIs_below xB3.out ue.out xB3.out.lt) (bx_below we (.cells #[.slice none 0 0] 29)) (rowIs_below xB3.out ue.out xB3.out.lt).lt)
                 have hu_3_2 := row3_2 (rowIs_below (rowIs_below xB3.out ue.out xB3.out.lt) (bx_below we (.cells #[.slice none 0 0] 29)) (rowIs_below xB3.out ue.out xB3.out.lt).lt)
                 try have hs_3_0 := row3_0 ((rowIs_below xB3.out ue.out xB3.out.lt).setOther (a := ⟨_, 0, none⟩) (Nat.ne_of_lt (Nat.lt_of_lt_of_le xB3.out.lt lz.out)) (.slice AX nX cX))
                 try have hs_3_1 := row3_1 ((rowIs_below xB3.out ue.out xB3.out.lt).setOther (a := ⟨_, 0, none⟩) (Nat.ne_of_lt (Nat.lt_of_lt_of_le xB3.out.lt lz.out)) (.slice AX nX cX))
                 try have hs_3_2 := row3_2 ((rowIs_below xB3.out ue.out xB3.out.lt).setOther (a := ⟨_, 0, none⟩) (Nat.ne_of_lt (Nat.lt_of_lt_of_le xB3.out.lt lz.out)) (.slice AX nX cX))
                 have iw_2_0 := (rowIs_below xb2.out ue.out xb2.out.lt).cell (i := 0) (by omega)
                 have iv_2_0 := (rowIs_below (rowIs_below xb2.out ue.out xb2.out.lt) (bx_below we (.cells #[.slice AX nX cX] 29)) (rowIs_below xb2.out ue.out xb2.out.lt).lt).cell (i := 0) (by omega)
                 have iu_2_0 := (rowIs_below (rowIs_below xb2.out ue.out xb2.out.lt) (bx_below we (.cells #[.slice none 0 0] 29)) (rowIs_below xb2.out ue.out xb2.out.lt).lt).cell (i := 0) (by omega)
                 try have is_2_0 := ((rowIs_below xb2.out ue.out xb2.out.lt).setOther (a := ⟨_, 0, none⟩) (Nat.ne_of_lt (Nat.lt_of_lt_of_le xb2.out.lt lz.out)) (.slice AX nX cX)).cell (i := 0) (by omega)
                 clear be oe)
              | (clear tk1
                 go_at_call 34
                 have kb := bx_below wy0 (.cells #[.slice none 0 0] 29)
                 refine (implPutVoteX_any _ n0 _ l0 _ n1 _ l1 _ n2 _ l2 j0 j1 j2 _ (row_blks' le0.out (rowIs_below (rowIs_below x0.out ua0.out x0.out.lt) kb (rowIs_below x0.out ua0.out x0.out.lt).lt)) (row_ints le1.out (rowIs_below (rowIs_below x1.out ua0.out x1.out.lt) kb (rowIs_below x1.out ua0.out x1.out.lt).lt)) (row_votesB le2.out (rowIs_below (rowIs_below x2.out ua0.out x2.out.lt) kb (rowIs_below x2.out ua0.out x2.out.lt).lt)) hm0 hm1 hm2 (Nat.le_refl _) (fun e => by cases e)).mono ?_
                 rintro e we ⟨AX, nX, cX, rfl, oe, be⟩
                 have zb := Lib.hid (rowIs_below (bx_row wy0 (.slice none 0 0) 29) be (by simp))
                 have lz := Lib.hid (show WX.heap.size ≤ wy0.heap.size from ua0.out.size)
                 have gz := Lib.hid (show wy0.heap.size < (wy0.alloc (.cells #[.slice none 0 0] 29)).heap.size by simp)
                 have hB := Lib.hid (Nat.le_trans ua0.out.size kb.size)
                 have hzb0 := (zb.out).cell (i := 0) (by omega)
                 have hzf0 := zb.out.frozen 0
                 have ye := Lib.hid oe
                 have ue := Lib.hid (ua0.out.trans ((kb.trans (be.mono kb.size)).mono ua0.out.size))
                 have hw_2_0 := (rowIs_below xB2.out ue.out xB2.out.lt).cell (i := 0) (by omega)
                 have hv_2_0 := (rowIs_below (rowIs_below xB2.out ue.out xB2.out.lt) (bx_below we (.cells #[.slice AX nX cX] 29)) (rowIs_below xB2.out ue.out xB2.out.lt).lt).cell (i := 0) (by omega)
                 have hu_2_0 := (rowIs_below (rowIs_below xB2.out ue.out xB2.out.lt) (bx_below we (.cells #[.slice none 0 0] 29)) (rowIs_below xB2.out ue.out xB2.out.lt).lt).cell (i := 0) (by omega)
                 have hs_2_0 := ((rowIs_below xB2.out ue.out xB2.out.lt).setOther (a := ⟨_, 0, none⟩) (Nat.ne_of_lt (Nat.lt_of_lt_of_le xB2.out.lt lz.out)) (.slice AX nX cX)).cell (i := 0) (by omega)
                 have hw_3_0 := row3_0 (rowIs_below xB3.out ue.out xB3.out.lt)
                 have hw_3_1 := row3_1 (rowIs_below xB3.out ue.out xB3.out.lt)
                 have hw_3_2 := row3_2 (rowIs_below xB3.out ue.out xB3.out.lt)
                 have hv_3_0 := row3_0 (rowIs_below (rowIs_below xB3.out ue.out xB3.out.lt) (bx_below we (.cells #[.slice AX nX cX] 29)) (rowIs_below xB3.out ue.out xB3.out.lt).lt)
                 have hv_3_1 := row3_1 (rowIs_below (rowIs_below xB3.out ue.out xB3.out.lt) (bx_below we (.cells #[.slice AX nX cX] 29)) (rowIs_below xB3.out ue.out xB3.out.lt).lt)
                 have hv_3_2 := row3_2 (rowIs_below (rowIs_below xB3.out ue.out xB3.out.lt) (bx_below we (.cells #[.slice AX nX cX] 29)) (rowIs_below xB3.out ue.out xB3.out.lt).lt)
                 have hu_3_0 := row3_0 (rowIs_below (rowIs_below xB3.out ue.out xB3.out.lt) (bx_below we (.cells #[.slice none 0 0] 29)) (rowIs_below xB3.out ue.out xB3.out.lt).lt)
                 have hu_3_1 := row3_1 (rowIs_below (rowIs_below xB3.out ue.out xB3.out.lt) (bx_below we (.cells #[.slice none 0 0] 29)) (rowIs_below xB3.out ue.out xB3.out.lt).lt)
                 have hu_3_2 := row3_2 (rowIs_below (rowIs_below xB3.out ue.out xB3.out.lt) (bx_below we (.cells #[.slice none 0 0] 29)) (rowIs_below xB3.out ue.out xB3.out.lt).lt)
                 have hs_3_0 := row3_0 ((rowIs_below xB3.out ue.out xB3.out.lt).setOther (a := ⟨_, 0, none⟩) (Nat.ne_of_lt (Nat.lt_of_lt_of_le xB3.out.lt lz.out)) (.slice AX nX cX))
                 have hs_3_1 := row3_1 ((rowIs_below xB3.out ue.out xB3.out.lt).setOther (a := ⟨_, 0, none⟩) (Nat.ne_of_lt (Nat.lt_of_lt_of_le xB3.out.lt lz.out)) (.slice AX nX cX))
                 have hs_3_2 := row3_2 ((rowIs_below xB3.out ue.out xB3.out.lt).setOther (a := ⟨_, 0, none⟩) (Nat.ne_of_lt (Nat.lt_of_lt_of_le xB3.out.lt lz.out)) (.slice AX nX cX))
                 have iw_2_0 := (rowIs_below xb2.out ue.out xb2.out.lt).cell (i := 0) (by omega)
                 have iv_2_0 := (rowIs_below (rowIs_below xb2.out ue.out xb2.out.lt) (bx_below we (.cells #[.slice AX nX cX] 29)) (rowIs_below xb2.out ue.out xb2.out.lt).lt).cell (i := 0) (by omega)
                 have iu_2_0 := (rowIs_below (rowIs_below xb2.out ue.out xb2.out.lt) (bx_below we (.cells #[.slice none 0 0] 29)) (rowIs_below xb2.out ue.out xb2.out.lt).lt).cell (i := 0) (by omega)
                 have is_2_0 := ((rowIs_below xb2.out ue.out xb2.out.lt).setOther (a := ⟨_, 0, none⟩) (Nat.ne_of_lt (Nat.lt_of_lt_of_le xb2.out.lt lz.out)) (.slice AX nX cX)).cell (i := 0) (by omega)
                 clear be oe kb))
            all_goals
              go_wp2_with fail
              go_meet
              case rel => first
                | exact ⟨_, _, _, _, rfl, rfl, rfl, Lib.hid ((ye.out.below (bx_below we _)).fewer hB.out), Lib.hid (bx_row we _ _), Lib.hid ue.out.size, Lib.hid (ue.out.trans ((bx_below we _).mono ue.out.size)), Lib.hid (fun ad e => by have := (ye.out.low ad e).2; omega)⟩
                | exact ⟨_, _, _, _, rfl, rfl, rfl, Lib.hid ((ye.out.setBox gz.out _).fewer hB.out), Lib.hid ((zb.out.set 0 _).congr (fun i hi => by rw [if_pos (by omega)])), Lib.hid lz.out, Lib.hid (ue.out.setCell (p := ⟨_, 0, none⟩) lz.out _), Lib.hid (fun ad e => by have := (ye.out.low ad e).1; have := gz.out; omega)⟩
          case rest =>
            obtain ⟨AP, nP, cP, gPB, rfl, rfl, rfl, yAP, xgPB, lgPB, k5, nbAP⟩ := hcut
            skip
            have k6 := k5.out
            clear k5
            clear hcB2_0 hcB3_0 hcB3_1 hcB3_2
            clear hcX2_0
            have hnP : nP ≤ 100 := by rw [← yAP.out.len]; exact hlen0.out
            have lo_yAP := Lib.hid (fun ad (e : AP = some ad) => Nat.le_trans sz.out (yAP.out.low ad e).1)
            have hi_yAP := Lib.hid (fun ad (e : AP = some ad) => (yAP.out.low ad e).2)
            have mo_yAP := Lib.hid (Nat.le_trans sz.out k6.size)
            have lo_xgPB := Lib.hid (Nat.le_trans sz.out lgPB.out)
            have hi_xgPB := Lib.hid xgPB.out.lt
            replace u := Lib.hid (u.out.trans (k6.mono u.out.size))
            replace sz := Lib.hid (Nat.le_trans sz.out k6.size)
            replace xB2 := Lib.hid (rowIs_below xB2.out k6 xB2.out.lt)
            replace xB3 := Lib.hid (rowIs_below xB3.out k6 xB3.out.lt)
            replace yAM := Lib.hid (yAM.out.below k6)
            replace xgMB := Lib.hid (rowIs_below xgMB.out k6 xgMB.out.lt)
            replace x0 := Lib.hid (rowIs_below x0.out k6 x0.out.lt)
            replace x1 := Lib.hid (rowIs_below x1.out k6 x1.out.lt)
            replace x2 := Lib.hid (rowIs_below x2.out k6 x2.out.lt)
            replace xb2 := Lib.hid (rowIs_below xb2.out k6 xb2.out.lt)
            clear k6
            clear sz
            have sz := Lib.hid (Nat.le_refl wc.heap.size)
            have hrgPB_0 := (xgPB.out).cell (i := 0) (by omega)
            have hrgMB_0 := (xgMB.out).cell (i := 0) (by omega)
            go_wp2_with fail
            refine (eqPool_b AP AM nP nM cP cM _ _ yAP.out.votes yAM.out.votes (by omega) (by omega)).mono ?_
            rintro e w9 ⟨rfl, b9⟩
            clear hrgPB_0 hrgMB_0
            replace u := Lib.hid (u.out.trans (b9.mono u.out.size))
            replace sz := Lib.hid (Nat.le_trans sz.out b9.size)
            replace xB2 := Lib.hid (rowIs_below xB2.out b9 xB2.out.lt)
            replace xB3 := Lib.hid (rowIs_below xB3.out b9 xB3.out.lt)
            replace yAM := Lib.hid (yAM.out.below b9)
            replace xgMB := Lib.hid (rowIs_below xgMB.out b9 xgMB.out.lt)
            replace x0 := Lib.hid (rowIs_below x0.out b9 x0.out.lt)
            replace x1 := Lib.hid (rowIs_below x1.out b9 x1.out.lt)
            replace x2 := Lib.hid (rowIs_below x2.out b9 x2.out.lt)
            replace xb2 := Lib.hid (rowIs_below xb2.out b9 xb2.out.lt)
            replace yAP := Lib.hid (yAP.out.below b9)
            replace xgPB := Lib.hid (rowIs_below xgPB.out b9 xgPB.out.lt)
            clear b9
            go_wp2_with fail
            refine (toBlk_g A0 n0 c0 l0 _ (ha0.out.up u.out) hm0).mono ?_
            rintro e w10 ⟨gZ, rfl, rZ, b10, _, _⟩
            have xZ := Lib.hid rZ; clear rZ
            replace u := Lib.hid (u.out.trans (b10.mono u.out.size))
            replace sz := Lib.hid (Nat.le_trans sz.out b10.size)
            replace xB2 := Lib.hid (rowIs_below xB2.out b10 xB2.out.lt)
            replace xB3 := Lib.hid (rowIs_below xB3.out b10 xB3.out.lt)
            replace yAM := Lib.hid (yAM.out.below b10)
            replace xgMB := Lib.hid (rowIs_below xgMB.out b10 xgMB.out.lt)
            replace x0 := Lib.hid (rowIs_below x0.out b10 x0.out.lt)
            replace x1 := Lib.hid (rowIs_below x1.out b10 x1.out.lt)
            replace x2 := Lib.hid (rowIs_below x2.out b10 x2.out.lt)
            replace xb2 := Lib.hid (rowIs_below xb2.out b10 xb2.out.lt)
            replace yAP := Lib.hid (yAP.out.below b10)
            replace xgPB := Lib.hid (rowIs_below xgPB.out b10 xgPB.out.lt)
            clear b10
            go_wp2_with fail
            refine (eqBlk_b _ _ n0 n0 _ _ l0 _ (row_blks' le0.out x0.out) (row_blks' le0.out xZ.out) hm0 hm0).mono ?_
            rintro e w11 ⟨rfl, b11⟩
            replace u := Lib.hid (u.out.trans (b11.mono u.out.size))
            replace sz := Lib.hid (Nat.le_trans sz.out b11.size)
            replace xB2 := Lib.hid (rowIs_below xB2.out b11 xB2.out.lt)
            replace xB3 := Lib.hid (rowIs_below xB3.out b11 xB3.out.lt)
            replace yAM := Lib.hid (yAM.out.below b11)
            replace xgMB := Lib.hid (rowIs_below xgMB.out b11 xgMB.out.lt)
            replace x0 := Lib.hid (rowIs_below x0.out b11 x0.out.lt)
            replace x1 := Lib.hid (rowIs_below x1.out b11 x1.out.lt)
            replace x2 := Lib.hid (rowIs_below x2.out b11 x2.out.lt)
            replace xb2 := Lib.hid (rowIs_below xb2.out b11 xb2.out.lt)
            replace yAP := Lib.hid (yAP.out.below b11)
            replace xgPB := Lib.hid (rowIs_below xgPB.out b11 xgPB.out.lt)
            replace xZ := Lib.hid (rowIs_below xZ.out b11 xZ.out.lt)
            clear b11
            clear xZ
            go_wp2_with fail
            refine (toInt_g A1 n1 c1 l1 _ (ha1.out.up' u.out) hm1).mono ?_
            rintro e w12 ⟨gZ, rfl, rZ, b12, _, _⟩
            have xZ := Lib.hid rZ; clear rZ
            replace u := Lib.hid (u.out.trans (b12.mono u.out.size))
            replace sz := Lib.hid (Nat.le_trans sz.out b12.size)
            replace xB2 := Lib.hid (rowIs_below xB2.out b12 xB2.out.lt)
            replace xB3 := Lib.hid (rowIs_below xB3.out b12 xB3.out.lt)
            replace yAM := Lib.hid (yAM.out.below b12)
            replace xgMB := Lib.hid (rowIs_below xgMB.out b12 xgMB.out.lt)
            replace x0 := Lib.hid (rowIs_below x0.out b12 x0.out.lt)
            replace x1 := Lib.hid (rowIs_below x1.out b12 x1.out.lt)
            replace x2 := Lib.hid (rowIs_below x2.out b12 x2.out.lt)
            replace xb2 := Lib.hid (rowIs_below xb2.out b12 xb2.out.lt)
            replace yAP := Lib.hid (yAP.out.below b12)
            replace xgPB := Lib.hid (rowIs_below xgPB.out b12 xgPB.out.lt)
            clear b12
            go_wp2_with fail
            refine (eqInt_b _ _ n1 n1 _ _ l1 _ (row_ints le1.out x1.out) (row_ints le1.out xZ.out) hm1 hm1).mono ?_
            rintro e w13 ⟨rfl, b13⟩
            replace u := Lib.hid (u.out.trans (b13.mono u.out.size))
            replace sz := Lib.hid (Nat.le_trans sz.out b13.size)
            replace xB2 := Lib.hid (rowIs_below xB2.out b13 xB2.out.lt)
            replace xB3 := Lib.hid (rowIs_below xB3.out b13 xB3.out.lt)
            replace yAM := Lib.hid (yAM.out.below b13)
            replace xgMB := Lib.hid (rowIs_below xgMB.out b13 xgMB.out.lt)
            replace x0 := Lib.hid (rowIs_below x0.out b13 x0.out.lt)
            replace x1 := Lib.hid (rowIs_below x1.out b13 x1.out.lt)
            replace x2 := Lib.hid (rowIs_below x2.out b13 x2.out.lt)
            replace xb2 := Lib.hid (rowIs_below xb2.out b13 xb2.out.lt)
            replace yAP := Lib.hid (yAP.out.below b13)
            replace xgPB := Lib.hid (rowIs_below xgPB.out b13 xgPB.out.lt)
            replace xZ := Lib.hid (rowIs_below xZ.out b13 xZ.out.lt)
            clear b13
            clear xZ
            have hcB2_0 := (xB2.out).cell (i := 0) (by omega)
            have hcX2_0 := (xb2.out).cell (i := 0) (by omega)
            have hT2 := Lib.hid (toPool_g A2 n2 c2 l2 w13.drew (show VotesAt w13.drew w13.drew.heap.size A2 n2 l2 from ⟨(ha2.out.up u.out).1, (ha2.out.up u.out).2⟩) hm2)
            go_upto_region 21 with fail
            go_cut [95] from 91 to 95 (fun s wx => s = .bool false ∧ Hid (Below w13.heap.size w13 wx))
            case first =>
              go_region_with (first
                | (go_at_call 32
                   refine hT2.out.mono ?_
                   rintro e wa ⟨ga2, rfl, ra2, ba, da2, fa2⟩
                   have xa2 := Lib.hid ra2
                   have ua := Lib.hid (show Below w13.heap.size w13 wa from ⟨ba.os, ba.tape, ba.output, ba.size, ba.block⟩)
                   have hd1_0 := (rowIs_below xB2.out ua.out xB2.out.lt).cell (i := 0) (by omega)
                   have hd2_0 := (rowIs_below xb2.out ua.out xb2.out.lt).cell (i := 0) (by omega)
                   have xR2 := Lib.hid (rowIs_below x2.out ua.out x2.out.lt)
                   clear ba ra2)
                | (go_at_call 21
                   refine (eqPool_b _ _ n2 n2 n2 n2 l2 _ (row_votesB le2.out xR2.out) (row_votesB le2.out xa2.out) hm2 hm2).mono ?_
                   rintro e wb ⟨rfl, bb⟩
                   have ub := Lib.hid (ua.out.trans (bb.mono ua.out.size))
                   clear bb))
              all_goals
                go_wp2_with fail
                go_meet
                case rel => exact ⟨rfl, ub⟩
            case rest =>
              obtain ⟨rfl, k6⟩ := hcut
              have k7 := k6.out
              clear k6 hT2 hcB2_0 hcX2_0
              replace u := Lib.hid (u.out.trans (k7.mono u.out.size))
              replace sz := Lib.hid (Nat.le_trans sz.out k7.size)
              replace xB2 := Lib.hid (rowIs_below xB2.out k7 xB2.out.lt)
              replace xB3 := Lib.hid (rowIs_below xB3.out k7 xB3.out.lt)
              replace yAM := Lib.hid (yAM.out.below k7)
              replace xgMB := Lib.hid (rowIs_below xgMB.out k7 xgMB.out.lt)
              replace x0 := Lib.hid (rowIs_below x0.out k7 x0.out.lt)
              replace x1 := Lib.hid (rowIs_below x1.out k7 x1.out.lt)
              replace x2 := Lib.hid (rowIs_below x2.out k7 x2.out.lt)
              replace xb2 := Lib.hid (rowIs_below xb2.out k7 xb2.out.lt)
              replace yAP := Lib.hid (yAP.out.below k7)
              replace xgPB := Lib.hid (rowIs_below xgPB.out k7 xgPB.out.lt)
              clear k7
              go_wp2_with fail
              refine (markBlk_b g0 n0 _ _ (1) _ x0.out hm0 (by omega) (by omega)).mono ?_
              rintro e w14 ⟨rfl, oo⟩
              have ok_ := oo.o
              clear oo
              replace u := Lib.hid (u.out.trans (ok_.below u.out.size (fun ad e => by cases e; have := lo_x0.out; have := hi_x0.out; have := lo_xB2.out; have := hi_xB2.out; have := lo_xB3.out; have := hi_xB3.out; have := mo_yAM.out; show w.heap.size ≤ g0; omega)))
              replace sz := Lib.hid (Nat.le_trans sz.out ok_.size)
              replace xB2 := Lib.hid (rowIs_o xB2.out ok_ (fun ad e => by cases e; have := lo_x0.out; have := hi_x0.out; have := lo_xB2.out; have := hi_xB2.out; have := lo_xB3.out; have := hi_xB3.out; have := mo_yAM.out; show w.heap.size ≠ g0; omega))
              replace xB3 := Lib.hid (rowIs_o xB3.out ok_ (fun ad e => by cases e; have := lo_x0.out; have := hi_x0.out; have := lo_xB3.out; have := hi_xB3.out; have := mo_yAM.out; show (w.heap.size + 1) ≠ g0; omega))
              replace yAM := Lib.hid (OwnV.o yAM.out ok_ (fun ad ad' e e' => by cases e'; have := lo_x0.out; have := hi_x0.out; have := lo_yAM.out ad e; have := hi_yAM.out ad e; show ad.block ≠ g0; omega))
              replace xgMB := Lib.hid (rowIs_o xgMB.out ok_ (fun ad e => by cases e; have := lo_x0.out; have := hi_x0.out; have := lo_xgMB.out; have := hi_xgMB.out; show gMB ≠ g0; omega))
              replace x1 := Lib.hid (rowIs_o x1.out ok_ (fun ad e => by cases e; have := lo_x0.out; have := hi_x0.out; have := lo_x1.out; have := hi_x1.out; show g1 ≠ g0; omega))
              replace x2 := Lib.hid (rowIs_o x2.out ok_ (fun ad e => by cases e; have := lo_x0.out; have := hi_x0.out; have := lo_x2.out; have := hi_x2.out; have := lo_x1.out; have := hi_x1.out; show g2 ≠ g0; omega))
              replace xb2 := Lib.hid (rowIs_o xb2.out ok_ (fun ad e => by cases e; have := lo_x0.out; have := hi_x0.out; have := lo_xb2.out; have := hi_xb2.out; have := lo_x1.out; have := hi_x1.out; have := lo_x2.out; have := hi_x2.out; show w8.heap.size ≠ g0; omega))
              replace yAP := Lib.hid (OwnV.o yAP.out ok_ (fun ad ad' e e' => by cases e'; have := lo_x0.out; have := hi_x0.out; have := lo_yAP.out ad e; have := hi_yAP.out ad e; have := lo_x1.out; have := hi_x1.out; have := lo_x2.out; have := hi_x2.out; have := lo_xb2.out; have := hi_xb2.out; show ad.block ≠ g0; omega))
              replace xgPB := Lib.hid (rowIs_o xgPB.out ok_ (fun ad e => by cases e; have := lo_x0.out; have := hi_x0.out; have := lo_xgPB.out; have := hi_xgPB.out; have := lo_x1.out; have := hi_x1.out; have := lo_x2.out; have := hi_x2.out; have := lo_xb2.out; have := hi_xb2.out; show gPB ≠ g0; omega))
              clear ok_ x0
              go_wp2_with fail
              refine (markInt_b g1 n1 _ l1 (1 + (n0 : Int) * 2) _ le1.out x1.out hm1 (by omega) (by omega)).mono ?_
              rintro e w15 ⟨rfl, oo⟩
              have ok_ := oo.o
              clear oo
              replace u := Lib.hid (u.out.trans (ok_.below u.out.size (fun ad e => by cases e; have := lo_x1.out; have := hi_x1.out; have := lo_xB2.out; have := hi_xB2.out; have := lo_xB3.out; have := hi_xB3.out; have := mo_yAM.out; have := lo_x0.out; have := hi_x0.out; show w.heap.size ≤ g1; omega)))
              replace sz := Lib.hid (Nat.le_trans sz.out ok_.size)
              replace xB2 := Lib.hid (rowIs_o xB2.out ok_ (fun ad e => by cases e; have := lo_x1.out; have := hi_x1.out; have := lo_xB2.out; have := hi_xB2.out; have := lo_xB3.out; have := hi_xB3.out; have := mo_yAM.out; have := lo_x0.out; have := hi_x0.out; show w.heap.size ≠ g1; omega))
              replace xB3 := Lib.hid (rowIs_o xB3.out ok_ (fun ad e => by cases e; have := lo_x1.out; have := hi_x1.out; have := lo_xB3.out; have := hi_xB3.out; have := mo_yAM.out; have := lo_x0.out; have := hi_x0.out; show (w.heap.size + 1) ≠ g1; omega))
              replace yAM := Lib.hid (OwnV.o yAM.out ok_ (fun ad ad' e e' => by cases e'; have := lo_x1.out; have := hi_x1.out; have := lo_yAM.out ad e; have := hi_yAM.out ad e; have := lo_x0.out; have := hi_x0.out; show ad.block ≠ g1; omega))
              replace xgMB := Lib.hid (rowIs_o xgMB.out ok_ (fun ad e => by cases e; have := lo_x1.out; have := hi_x1.out; have := lo_xgMB.out; have := hi_xgMB.out; have := lo_x0.out; have := hi_x0.out; show gMB ≠ g1; omega))
              replace x2 := Lib.hid (rowIs_o x2.out ok_ (fun ad e => by cases e; have := lo_x1.out; have := hi_x1.out; have := lo_x2.out; have := hi_x2.out; show g2 ≠ g1; omega))
              replace xb2 := Lib.hid (rowIs_o xb2.out ok_ (fun ad e => by cases e; have := lo_x1.out; have := hi_x1.out; have := lo_xb2.out; have := hi_xb2.out; have := lo_x2.out; have := hi_x2.out; show w8.heap.size ≠ g1; omega))
              replace yAP := Lib.hid (OwnV.o yAP.out ok_ (fun ad ad' e e' => by cases e'; have := lo_x1.out; have := hi_x1.out; have := lo_yAP.out ad e; have := hi_yAP.out ad e; have := lo_x2.out; have := hi_x2.out; have := lo_xb2.out; have := hi_xb2.out; show ad.block ≠ g1; omega))
              replace xgPB := Lib.hid (rowIs_o xgPB.out ok_ (fun ad e => by cases e; have := lo_x1.out; have := hi_x1.out; have := lo_xgPB.out; have := hi_xgPB.out; have := lo_x2.out; have := hi_x2.out; have := lo_xb2.out; have := hi_xb2.out; show gPB ≠ g1; omega))
              clear ok_ x1
              have hcX2_0 := (xb2.out).cell (i := 0) (by omega)
              go_wp2_with fail
              refine (markPool_b g2 n2 _ l2 (1 + (n0 : Int) * 2 + (n1 : Int)) _ le2.out x2.out hm2 (by omega) (by omega)).mono ?_
              rintro e w16 ⟨rfl, oo⟩
              have ok_ := oo.o
              clear oo
              clear hcX2_0
              replace u := Lib.hid (u.out.trans (ok_.below u.out.size (fun ad e => by cases e; have := lo_x2.out; have := hi_x2.out; have := lo_xB2.out; have := hi_xB2.out; have := lo_xB3.out; have := hi_xB3.out; have := mo_yAM.out; have := lo_x0.out; have := hi_x0.out; have := lo_x1.out; have := hi_x1.out; show w.heap.size ≤ g2; omega)))
              replace sz := Lib.hid (Nat.le_trans sz.out ok_.size)
              replace xB2 := Lib.hid (rowIs_o xB2.out ok_ (fun ad e => by cases e; have := lo_x2.out; have := hi_x2.out; have := lo_xB2.out; have := hi_xB2.out; have := lo_xB3.out; have := hi_xB3.out; have := mo_yAM.out; have := lo_x0.out; have := hi_x0.out; have := lo_x1.out; have := hi_x1.out; show w.heap.size ≠ g2; omega))
              replace xB3 := Lib.hid (rowIs_o xB3.out ok_ (fun ad e => by cases e; have := lo_x2.out; have := hi_x2.out; have := lo_xB3.out; have := hi_xB3.out; have := mo_yAM.out; have := lo_x0.out; have := hi_x0.out; have := lo_x1.out; have := hi_x1.out; show (w.heap.size + 1) ≠ g2; omega))
              replace yAM := Lib.hid (OwnV.o yAM.out ok_ (fun ad ad' e e' => by cases e'; have := lo_x2.out; have := hi_x2.out; have := lo_yAM.out ad e; have := hi_yAM.out ad e; have := lo_x0.out; have := hi_x0.out; have := lo_x1.out; have := hi_x1.out; show ad.block ≠ g2; omega))
              replace xgMB := Lib.hid (rowIs_o xgMB.out ok_ (fun ad e => by cases e; have := lo_x2.out; have := hi_x2.out; have := lo_xgMB.out; have := hi_xgMB.out; have := lo_x0.out; have := hi_x0.out; have := lo_x1.out; have := hi_x1.out; show gMB ≠ g2; omega))
              replace xb2 := Lib.hid (rowIs_o xb2.out ok_ (fun ad e => by cases e; have := lo_x2.out; have := hi_x2.out; have := lo_xb2.out; have := hi_xb2.out; show w8.heap.size ≠ g2; omega))
              replace yAP := Lib.hid (OwnV.o yAP.out ok_ (fun ad ad' e e' => by cases e'; have := lo_x2.out; have := hi_x2.out; have := lo_yAP.out ad e; have := hi_yAP.out ad e; have := lo_xb2.out; have := hi_xb2.out; show ad.block ≠ g2; omega))
              replace xgPB := Lib.hid (rowIs_o xgPB.out ok_ (fun ad e => by cases e; have := lo_x2.out; have := hi_x2.out; have := lo_xgPB.out; have := hi_xgPB.out; have := lo_xb2.out; have := hi_xb2.out; show gPB ≠ g2; omega))
              clear ok_ x2
              clear xb2
              have hk0 : ¬ (1 + (n0 : Int) * 2 + (n1 : Int) + (n2 : Int) * 3 < 0) := by omega
              have hrgPB_0 := (xgPB.out).cell (i := 0) (by omega)
              have hrgMB_0 := (xgMB.out).cell (i := 0) (by omega)
              go_wp2_with fail
              refine (eqPool_b AP AM nP nM cP cM _ _ yAP.out.votes yAM.out.votes (by omega) (by omega)).mono ?_
              rintro e w17 ⟨rfl, b17⟩
              clear hrgPB_0 hrgMB_0
              replace u := Lib.hid (u.out.trans (b17.mono u.out.size))
              replace sz := Lib.hid (Nat.le_trans sz.out b17.size)
              replace xB2 := Lib.hid (rowIs_below xB2.out b17 xB2.out.lt)
              replace xB3 := Lib.hid (rowIs_below xB3.out b17 xB3.out.lt)
              replace yAM := Lib.hid (yAM.out.below b17)
              replace xgMB := Lib.hid (rowIs_below xgMB.out b17 xgMB.out.lt)
              replace yAP := Lib.hid (yAP.out.below b17)
              replace xgPB := Lib.hid (rowIs_below xgPB.out b17 xgPB.out.lt)
              clear b17
              clear hk0
              have hrgPB_0 := (xgPB.out).cell (i := 0) (by omega)
              go_wp2_with fail
              refine (markPoolR_b AP nP cP _ _ 1 _ yAP.out (by omega) (by decide) (by decide)).mono ?_
              rintro e w18 ⟨rfl, oP2, ok_⟩
              clear hrgPB_0
              replace u := Lib.hid (u.out.trans (ok_.below u.out.size (fun ad e => by have := lo_yAP.out ad e; have := hi_yAP.out ad e; have := lo_xB2.out; have := hi_xB2.out; have := lo_xB3.out; have := hi_xB3.out; have := mo_yAM.out; have := lo_x0.out; have := hi_x0.out; have := lo_x1.out; have := hi_x1.out; have := lo_x2.out; have := hi_x2.out; have := lo_xb2.out; have := hi_xb2.out; omega)))
              replace sz := Lib.hid (Nat.le_trans sz.out ok_.size)
              replace xB2 := Lib.hid (rowIs_o xB2.out ok_ (fun ad e => by have := lo_yAP.out ad e; have := hi_yAP.out ad e; have := lo_xB2.out; have := hi_xB2.out; have := lo_xB3.out; have := hi_xB3.out; have := mo_yAM.out; have := lo_x0.out; have := hi_x0.out; have := lo_x1.out; have := hi_x1.out; have := lo_x2.out; have := hi_x2.out; have := lo_xb2.out; have := hi_xb2.out; omega))
              replace xB3 := Lib.hid (rowIs_o xB3.out ok_ (fun ad e => by have := lo_yAP.out ad e; have := hi_yAP.out ad e; have := lo_xB3.out; have := hi_xB3.out; have := mo_yAM.out; have := lo_x0.out; have := hi_x0.out; have := lo_x1.out; have := hi_x1.out; have := lo_x2.out; have := hi_x2.out; have := lo_xb2.out; have := hi_xb2.out; omega))
              replace yAM := Lib.hid (OwnV.o yAM.out ok_ (fun ad ad' e e' => by have := lo_yAP.out ad' e'; have := hi_yAP.out ad' e'; have := lo_yAM.out ad e; have := hi_yAM.out ad e; have := lo_x0.out; have := hi_x0.out; have := lo_x1.out; have := hi_x1.out; have := lo_x2.out; have := hi_x2.out; have := lo_xb2.out; have := hi_xb2.out; omega))
              replace xgMB := Lib.hid (rowIs_o xgMB.out ok_ (fun ad e => by have := lo_yAP.out ad e; have := hi_yAP.out ad e; have := lo_xgMB.out; have := hi_xgMB.out; have := lo_x0.out; have := hi_x0.out; have := lo_x1.out; have := hi_x1.out; have := lo_x2.out; have := hi_x2.out; have := lo_xb2.out; have := hi_xb2.out; omega))
              replace xgPB := Lib.hid (rowIs_o xgPB.out ok_ (fun ad e => (nbAP.out ad e).symm))
              clear yAP ok_
              have yAP := Lib.hid oP2; clear oP2
              have hrgPB_0 := (xgPB.out).cell (i := 0) (by omega)
              go_wp2_with fail
              refine (heldPool_b AP nP cP 1 _ yAP.out.votes (by omega) (by decide) (by decide)).mono ?_
              rintro e w19 ⟨rfl, b19⟩
              clear hrgPB_0
              replace u := Lib.hid (u.out.trans (b19.mono u.out.size))
              replace sz := Lib.hid (Nat.le_trans sz.out b19.size)
              replace xB2 := Lib.hid (rowIs_below xB2.out b19 xB2.out.lt)
              replace xB3 := Lib.hid (rowIs_below xB3.out b19 xB3.out.lt)
              replace yAM := Lib.hid (yAM.out.below b19)
              replace xgMB := Lib.hid (rowIs_below xgMB.out b19 xgMB.out.lt)
              replace yAP := Lib.hid (yAP.out.below b19)
              replace xgPB := Lib.hid (rowIs_below xgPB.out b19 xgPB.out.lt)
              clear b19
              have hlt0 : ¬ (1 + (nP : Int) * 3) < 0 := by omega
              have hne : ((1 + (nP : Int) * 3) != (1 + (nP : Int) * 3)) = false := by simp
              have hcB2_0 := (xB2.out).cell (i := 0) (by omega)
              have hcB3_0 := row3_0 (xB3.out)
              have hcB3_1 := row3_1 (xB3.out)
              have hcB3_2 := row3_2 (xB3.out)
              go_upto_region 37 with fail
              go_cut [22, 23, 24] from 134 to 146 (fun s t r wx => ∃ AX nX cX pX, s = .pointer (some ⟨pX, 0, none⟩) ∧ t = .int .i64 (putC l0 l1 l2 (j0, j1, j2)) ∧ r = .bool (putOK l0 l1 l2 (j0, j1, j2)) ∧ Hid (OwnV wx w19.heap.size AX nX (putR l0 l1 l2 (j0, j1, j2))) ∧ Hid (wx.rowIs pX 29 1 (fun _ => .slice AX nX cX)) ∧ Hid (w19.heap.size ≤ pX) ∧ Hid (Below w19.heap.size w19 wx))
              case first =>
                have tk0 : True := trivial
                have hz_2_0 := (rowIs_below (show w19.drew.rowIs w.heap.size 46 1 (fun _ => .slice A2 n2 c2) from xB2.out) (bx_below w19.drew (.cells #[.slice none 0 0] 29)) (show w.heap.size < w19.drew.heap.size from xB2.out.lt)).cell (i := 0) (by omega)
                have hz_3_0 := row3_0 (rowIs_below (show w19.drew.rowIs (w.heap.size + 1) 48 3 (fn3 (.int .i64 j0) (.int .i64 j1) (.int .i64 j2)) from xB3.out) (bx_below w19.drew (.cells #[.slice none 0 0] 29)) (show (w.heap.size + 1) < w19.drew.heap.size from xB3.out.lt))
                have hz_3_1 := row3_1 (rowIs_below (show w19.drew.rowIs (w.heap.size + 1) 48 3 (fn3 (.int .i64 j0) (.int .i64 j1) (.int .i64 j2)) from xB3.out) (bx_below w19.drew (.cells #[.slice none 0 0] 29)) (show (w.heap.size + 1) < w19.drew.heap.size from xB3.out.lt))
                have hz_3_2 := row3_2 (rowIs_below (show w19.drew.rowIs (w.heap.size + 1) 48 3 (fn3 (.int .i64 j0) (.int .i64 j1) (.int .i64 j2)) from xB3.out) (bx_below w19.drew (.cells #[.slice none 0 0] 29)) (show (w.heap.size + 1) < w19.drew.heap.size from xB3.out.lt))
                go_region_held3 (fun w' => w'.cell? ⟨w.heap.size, 0, none⟩ = some (.slice A2 n2 c2) ∧ w'.cell? ⟨(w.heap.size + 1), 0, none⟩ = some (.int .i64 j0) ∧ w'.cell? ⟨(w.heap.size + 1), 1, none⟩ = some (.int .i64 j1) ∧ w'.cell? ⟨(w.heap.size + 1), 2, none⟩ = some (.int .i64 j2)) (first | assumption | (refine ⟨?_, ?_, ?_, ?_⟩ <;> assumption) | go_keep) (first
                  | (clear tk0
                     go_at_call 17
                     refine (toBlk_g A0 n0 c0 l0 _ (show BlksAt w19.drew w19.drew.heap.size A0 n0 l0 from ⟨(ha0.out.up u.out).1, (ha0.out.up u.out).2⟩) hm0).mono ?_
                     rintro e wy0 ⟨gy0, rfl, ry0, by0, dy0, fy0⟩
                     have by_ := by0
                     have y0 := Lib.hid ry0
                     have ua0 := Lib.hid (show Below w19.heap.size w19 wy0 from ⟨by_.os, by_.tape, by_.output, by_.size, by_.block⟩)
                     have hd0_2_0 := (rowIs_below xB2.out ua0.out xB2.out.lt).cell (i := 0) (by omega)
                     have hd0_3_0 := row3_0 (rowIs_below xB3.out ua0.out xB3.out.lt)
                     have hd0_3_1 := row3_1 (rowIs_below xB3.out ua0.out xB3.out.lt)
                     have hd0_3_2 := row3_2 (rowIs_below xB3.out ua0.out xB3.out.lt)
                     have he0_2_0 := (rowIs_below (rowIs_below xB2.out ua0.out xB2.out.lt) (bx_below wy0 (.cells #[.slice none 0 0] 29)) (rowIs_below xB2.out ua0.out xB2.out.lt).lt).cell (i := 0) (by omega)
                     have he0_3_0 := row3_0 (rowIs_below (rowIs_below xB3.out ua0.out xB3.out.lt) (bx_below wy0 (.cells #[.slice none 0 0] 29)) (rowIs_below xB3.out ua0.out xB3.out.lt).lt)
                     have he0_3_1 := row3_1 (rowIs_below (rowIs_below xB3.out ua0.out xB3.out.lt) (bx_below wy0 (.cells #[.slice none 0 0] 29)) (rowIs_below xB3.out ua0.out xB3.out.lt).lt)
                     have he0_3_2 := row3_2 (rowIs_below (rowIs_below xB3.out ua0.out xB3.out.lt) (bx_below wy0 (.cells #[.slice none 0 0] 29)) (rowIs_below xB3.out ua0.out xB3.out.lt).lt)
                     clear ry0 by_ by0
                     have tk1 : True := trivial)
                  | (clear tk0
                     go_at_call 17
                     have kb := bx_below w19.drew (.cells #[.slice none 0 0] 29)
                     refine (toBlk_g A0 n0 c0 l0 _ ((show BlksAt w19.drew w19.drew.heap.size A0 n0 l0 from ⟨(ha0.out.up u.out).1, (ha0.out.up u.out).2⟩).up kb) hm0).mono ?_
                     rintro e wy0 ⟨gy0, rfl, ry0, by0, dy0, fy0⟩
                     have zb := Lib.hid (show wy0.rowIs w19.heap.size 29 1 (fun _ => .slice none 0 0) from rowIs_below (bx_row w19.drew (.slice none 0 0) 29) by0 (by simp))
                     have lz := Lib.hid (show w19.heap.size ≤ w19.heap.size from Nat.le_refl _)
                     have by_ := kb.trans (by0.mono kb.size)
                     have y0 := Lib.hid ry0
                     have ua0 := Lib.hid (show Below w19.heap.size w19 wy0 from ⟨by_.os, by_.tape, by_.output, by_.size, by_.block⟩)
                     have hd0_2_0 := (rowIs_below xB2.out ua0.out xB2.out.lt).cell (i := 0) (by omega)
                     have hd0_3_0 := row3_0 (rowIs_below xB3.out ua0.out xB3.out.lt)
                     have hd0_3_1 := row3_1 (rowIs_below xB3.out ua0.out xB3.out.lt)
                     have hd0_3_2 := row3_2 (rowIs_below xB3.out ua0.out xB3.out.lt)
                     clear ry0 by_ by0 kb
                     have tk1 : True := trivial)
                  | (clear tk1
                     go_at_call 18
                     refine (toInt_g A1 n1 c1 l1 _ (ha1.out.up' (u.out.trans (ua0.out.mono u.out.size))) hm1).mono ?_
                     rintro e wy1 ⟨gy1, rfl, ry1, by0, dy1, fy1⟩
                     have by_ := by0
                     try replace zb := Lib.hid (rowIs_below zb.out by_ zb.out.lt)
                     have y1 := Lib.hid ry1
                     replace y0 := Lib.hid (rowIs_below y0.out by_ y0.out.lt)
                     have ua1 := Lib.hid (ua0.out.trans (by_.mono ua0.out.size))
                     have hd1_2_0 := (rowIs_below xB2.out ua1.out xB2.out.lt).cell (i := 0) (by omega)
                     have hd1_3_0 := row3_0 (rowIs_below xB3.out ua1.out xB3.out.lt)
                     have hd1_3_1 := row3_1 (rowIs_below xB3.out ua1.out xB3.out.lt)
                     have hd1_3_2 := row3_2 (rowIs_below xB3.out ua1.out xB3.out.lt)
                     have he1_2_0 := (rowIs_below (rowIs_below xB2.out ua1.out xB2.out.lt) (bx_below wy1 (.cells #[.slice none 0 0] 29)) (rowIs_below xB2.out ua1.out xB2.out.lt).lt).cell (i := 0) (by omega)
                     have he1_3_0 := row3_0 (rowIs_below (rowIs_below xB3.out ua1.out xB3.out.lt) (bx_below wy1 (.cells #[.slice none 0 0] 29)) (rowIs_below xB3.out ua1.out xB3.out.lt).lt)
                     have he1_3_1 := row3_1 (rowIs_below (rowIs_below xB3.out ua1.out xB3.out.lt) (bx_below wy1 (.cells #[.slice none 0 0] 29)) (rowIs_below xB3.out ua1.out xB3.out.lt).lt)
                     have he1_3_2 := row3_2 (rowIs_below (rowIs_below xB3.out ua1.out xB3.out.lt) (bx_below wy1 (.cells #[.slice none 0 0] 29)) (rowIs_below xB3.out ua1.out xB3.out.lt).lt)
                     clear ry1 by_ by0
                     have tk2 : True := trivial)
                  | (clear tk1
                     go_at_call 18
                     have kb := bx_below wy0 (.cells #[.slice none 0 0] 29)
                     refine (toInt_g A1 n1 c1 l1 _ (ha1.out.up' ((u.out.trans (ua0.out.mono u.out.size)).trans (kb.mono (u.out.trans (ua0.out.mono u.out.size)).size))) hm1).mono ?_
                     rintro e wy1 ⟨gy1, rfl, ry1, by0, dy1, fy1⟩
                     have zb := Lib.hid (show wy1.rowIs wy0.heap.size 29 1 (fun _ => .slice none 0 0) from rowIs_below (bx_row wy0 (.slice none 0 0) 29) by0 (by simp))
                     have lz := Lib.hid (show w19.heap.size ≤ wy0.heap.size from ua0.out.size)
                     have by_ := kb.trans (by0.mono kb.size)
                     have y1 := Lib.hid ry1
                     replace y0 := Lib.hid (rowIs_below y0.out by_ y0.out.lt)
                     have ua1 := Lib.hid (ua0.out.trans (by_.mono ua0.out.size))
                     have hd1_2_0 := (rowIs_below xB2.out ua1.out xB2.out.lt).cell (i := 0) (by omega)
                     have hd1_3_0 := row3_0 (rowIs_below xB3.out ua1.out xB3.out.lt)
                     have hd1_3_1 := row3_1 (rowIs_below xB3.out ua1.out xB3.out.lt)
                     have hd1_3_2 := row3_2 (rowIs_below xB3.out ua1.out xB3.out.lt)
                     clear ry1 by_ by0 kb
                     have tk2 : True := trivial)
                  | (clear tk2
                     go_at_call 32
                     refine (toPool_g A2 n2 c2 l2 _ (ha2.out.up (u.out.trans (ua1.out.mono u.out.size))) hm2).mono ?_
                     rintro e wy2 ⟨gy2, rfl, ry2, by0, dy2, fy2⟩
                     have by_ := by0
                     try replace zb := Lib.hid (rowIs_below zb.out by_ zb.out.lt)
                     have y2 := Lib.hid ry2
                     replace y0 := Lib.hid (rowIs_below y0.out by_ y0.out.lt)
                     replace y1 := Lib.hid (rowIs_below y1.out by_ y1.out.lt)
                     have ua2 := Lib.hid (ua1.out.trans (by_.mono ua1.out.size))
                     have hd2_2_0 := (rowIs_below xB2.out ua2.out xB2.out.lt).cell (i := 0) (by omega)
                     have hd2_3_0 := row3_0 (rowIs_below xB3.out ua2.out xB3.out.lt)
                     have hd2_3_1 := row3_1 (rowIs_below xB3.out ua2.out xB3.out.lt)
                     have hd2_3_2 := row3_2 (rowIs_below xB3.out ua2.out xB3.out.lt)
                     have he2_2_0 := (rowIs_below (rowIs_below xB2.out ua2.out xB2.out.lt) (bx_below wy2 (.cells #[.slice none 0 0] 29)) (rowIs_below xB2.out ua2.out xB2.out.lt).lt).cell (i := 0) (by omega)
                     have he2_3_0 := row3_0 (rowIs_below (rowIs_below xB3.out ua2.out xB3.out.lt) (bx_below wy2 (.cells #[.slice none 0 0] 29)) (rowIs_below xB3.out ua2.out xB3.out.lt).lt)
                     have he2_3_1 := row3_1 (rowIs_below (rowIs_below xB3.out ua2.out xB3.out.lt) (bx_below wy2 (.cells #[.slice none 0 0] 29)) (rowIs_below xB3.out ua2.out xB3.out.lt).lt)
                     have he2_3_2 := row3_2 (rowIs_below (rowIs_below xB3.out ua2.out xB3.out.lt) (bx_below wy2 (.cells #[.slice none 0 0] 29)) (rowIs_below xB3.out ua2.out xB3.out.lt).lt)
                     clear ry2 by_ by0
                     have tk3 : True := trivial)
                  | (clear tk2
                     go_at_call 32
                     have kb := bx_below wy1 (.cells #[.slice none 0 0] 29)
                     refine (toPool_g A2 n2 c2 l2 _ (ha2.out.up ((u.out.trans (ua1.out.mono u.out.size)).trans (kb.mono (u.out.trans (ua1.out.mono u.out.size)).size))) hm2).mono ?_
                     rintro e wy2 ⟨gy2, rfl, ry2, by0, dy2, fy2⟩
                     have zb := Lib.hid (show wy2.rowIs wy1.heap.size 29 1 (fun _ => .slice none 0 0) from rowIs_below (bx_row wy1 (.slice none 0 0) 29) by0 (by simp))
                     have lz := Lib.hid (show w19.heap.size ≤ wy1.heap.size from ua1.out.size)
                     have by_ := kb.trans (by0.mono kb.size)
                     have y2 := Lib.hid ry2
                     replace y0 := Lib.hid (rowIs_below y0.out by_ y0.out.lt)
                     replace y1 := Lib.hid (rowIs_below y1.out by_ y1.out.lt)
                     have ua2 := Lib.hid (ua1.out.trans (by_.mono ua1.out.size))
                     have hd2_2_0 := (rowIs_below xB2.out ua2.out xB2.out.lt).cell (i := 0) (by omega)
                     have hd2_3_0 := row3_0 (rowIs_below xB3.out ua2.out xB3.out.lt)
                     have hd2_3_1 := row3_1 (rowIs_below xB3.out ua2.out xB3.out.lt)
                     have hd2_3_2 := row3_2 (rowIs_below xB3.out ua2.out xB3.out.lt)
                     clear ry2 by_ by0 kb
                     have tk3 : True := trivial)
                  | (clear tk3
                     go_at_call 33
                     refine (toVote_any j0 j1 j2 _).mono ?_
                     rintro e wy3 ⟨rfl, by0⟩
                     have by_ := by0
                     try replace zb := Lib.hid (rowIs_below zb.out by_ zb.out.lt)
                     replace y0 := Lib.hid (rowIs_below y0.out by_ y0.out.lt)
                     replace y1 := Lib.hid (rowIs_below y1.out by_ y1.out.lt)
                     replace y2 := Lib.hid (rowIs_below y2.out by_ y2.out.lt)
                     have ua3 := Lib.hid (ua2.out.trans (by_.mono ua2.out.size))
                     have hd3_2_0 := (rowIs_below xB2.out ua3.out xB2.out.lt).cell (i := 0) (by omega)
                     have hd3_3_0 := row3_0 (rowIs_below xB3.out ua3.out xB3.out.lt)
                     have hd3_3_1 := row3_1 (rowIs_below xB3.out ua3.out xB3.out.lt)
                     have hd3_3_2 := row3_2 (rowIs_below xB3.out ua3.out xB3.out.lt)
                     have he3_2_0 := (rowIs_below (rowIs_below xB2.out ua3.out xB2.out.lt) (bx_below wy3 (.cells #[.slice none 0 0] 29)) (rowIs_below xB2.out ua3.out xB2.out.lt).lt).cell (i := 0) (by omega)
                     have he3_3_0 := row3_0 (rowIs_below (rowIs_below xB3.out ua3.out xB3.out.lt) (bx_below wy3 (.cells #[.slice none 0 0] 29)) (rowIs_below xB3.out ua3.out xB3.out.lt).lt)
                     have he3_3_1 := row3_1 (rowIs_below (rowIs_below xB3.out ua3.out xB3.out.lt) (bx_below wy3 (.cells #[.slice none 0 0] 29)) (rowIs_below xB3.out ua3.out xB3.out.lt).lt)
                     have he3_3_2 := row3_2 (rowIs_below (rowIs_below xB3.out ua3.out xB3.out.lt) (bx_below wy3 (.cells #[.slice none 0 0] 29)) (rowIs_below xB3.out ua3.out xB3.out.lt).lt)
                     clear  by_ by0
                     have tk4 : True := trivial)
                  | (clear tk3
                     go_at_call 33
                     have kb := bx_below wy2 (.cells #[.slice none 0 0] 29)
                     refine (toVote_any j0 j1 j2 _).mono ?_
                     rintro e wy3 ⟨rfl, by0⟩
                     have zb := Lib.hid (show wy3.rowIs wy2.heap.size 29 1 (fun _ => .slice none 0 0) from rowIs_below (bx_row wy2 (.slice none 0 0) 29) by0 (by simp))
                     have lz := Lib.hid (show w19.heap.size ≤ wy2.heap.size from ua2.out.size)
                     have by_ := kb.trans (by0.mono kb.size)
                     replace y0 := Lib.hid (rowIs_below y0.out by_ y0.out.lt)
                     replace y1 := Lib.hid (rowIs_below y1.out by_ y1.out.lt)
                     replace y2 := Lib.hid (rowIs_below y2.out by_ y2.out.lt)
                     have ua3 := Lib.hid (ua2.out.trans (by_.mono ua2.out.size))
                     have hd3_2_0 := (rowIs_below xB2.out ua3.out xB2.out.lt).cell (i := 0) (by omega)
                     have hd3_3_0 := row3_0 (rowIs_below xB3.out ua3.out xB3.out.lt)
                     have hd3_3_1 := row3_1 (rowIs_below xB3.out ua3.out xB3.out.lt)
                     have hd3_3_2 := row3_2 (rowIs_below xB3.out ua3.out xB3.out.lt)
                     clear  by_ by0 kb
                     have tk4 : True := trivial)
                  | (clear tk4
                     go_at_call 34
                     refine (implPutVoteX_any _ n0 _ l0 _ n1 _ l1 _ n2 _ l2 j0 j1 j2 _ (row_blks' le0.out y0.out) (row_ints le1.out y1.out) (row_votesB le2.out y2.out) hm0 hm1 hm2 (Nat.le_refl _) (fun e => by cases e)).mono ?_
                     rintro e we ⟨AX, nX, cX, rfl, oe, be⟩
                     try have gz := Lib.hid zb.out.lt
                     try replace zb := Lib.hid (rowIs_below zb.out be zb.out.lt)
                     have hB := Lib.hid ua3.out.size
                     try have hzb0 := (zb.out).cell (i := 0) (by omega)
                     try have hzf0 := zb.out.frozen 0
                     have ye := Lib.hid oe
                     have ue := Lib.hid (ua3.out.trans (be.mono ua3.out.size))
                     have hw_2_0 := (rowIs_below xB2.out ue.out xB2.out.lt).cell (i := 0) (by omega)
                     have hv_2_0 := (rowIs_below (rowIs_below xB2.out ue.out xB2.out.lt) (bx_below we (.cells #[.slice AX nX cX] 29)) (rowIs_below xB2.out ue.out xB2.out.lt).lt).cell (i := 0) (by omega)
                     have hu_2_0 := (rowIs_below (rowIs_below xB2.out ue.out xB2.out.lt) (bx_below we (.cells #[.slice none 0 0] 29)) (rowIs_below xB2.out ue.out xB2.out.lt).lt).cell (i := 0) (by omega)
                     try have hs_2_0 := ((rowIs_below xB2.out ue.out xB2.out.lt).setOther (a := ⟨_, 0, none⟩) (Nat.ne_of_lt (Nat.lt_of_lt_of_le xB2.out.lt lz.out)) (.slice AX nX cX)).cell (i := 0) (by omega)
                     have hw_3_0 := row3_0 (rowIs_below xB3.out ue.out xB3.out.lt)
                     have hw_3_1 := row3_1 (rowIs_below xB3.out ue.out xB3.out.lt)
                     have hw_3_2 := row3_2 (rowIs_below xB3.out ue.out xB3.out.lt)
                     have hv_3_0 := row3_0 (rowIs_below (rowIs_below xB3.out ue.out xB3.out.lt) (bx_below we (.cells #[.slice AX nX cX] 29)) (rowIs_below xB3.out ue.out xB3.out.lt).lt)
                     have hv_3_1 := row3_1 (rowIs_below (rowIs_below xB3.out ue.out xB3.out.lt) (bx_below we (.cells #[.slice AX nX cX] 29)) (rowIs_below xB3.out ue.out xB3.out.lt).lt)
                     have hv_3_2 := row3_2 (rowIs_below (rowIs_below xB3.out ue.out xB3.out.lt) (bx_below we (.cells #[.slice AX nX cX] 29)) (rowIs_below xB3.out ue.out xB3.out.lt).lt)
                     have hu_3_0 := row3_0 (rowIs_below (rowIs_below xB3.out ue.out xB3.out.lt) (bx_below we (.cells #[.slice none 0 0] 29)) (rowIs_below xB3.out ue.out xB3.out.lt).lt)
                     have hu_3_1 := row3_1 (rowIs_below (rowIs_below xB3.out ue.out xB3.out.lt) (bx_below we (.cells #[.slice none 0 0] 29)) (rowIs_below xB3.out ue.out xB3.out.lt).lt)
                     have hu_3_2 := row3_2 (rowIs_below (rowIs_below xB3.out ue.out xB3.out.lt) (bx_below we (.cells #[.slice none 0 0] 29)) (rowIs_below xB3.out ue.out xB3.out.lt).lt)
                     try have hs_3_0 := row3_0 ((rowIs_below xB3.out ue.out xB3.out.lt).setOther (a := ⟨_, 0, none⟩) (Nat.ne_of_lt (Nat.lt_of_lt_of_le xB3.out.lt lz.out)) (.slice AX nX cX))
                     try have hs_3_1 := row3_1 ((rowIs_below xB3.out ue.out xB3.out.lt).setOther (a := ⟨_, 0, none⟩) (Nat.ne_of_lt (Nat.lt_of_lt_of_le xB3.out.lt lz.out)) (.slice AX nX cX))
                     try have hs_3_2 := row3_2 ((rowIs_below xB3.out ue.out xB3.out.lt).setOther (a := ⟨_, 0, none⟩) (Nat.ne_of_lt (Nat.lt_of_lt_of_le xB3.out.lt lz.out)) (.slice AX nX cX))
                     clear be oe)
                  | (clear tk4
                     go_at_call 34
                     have kb := bx_below wy3 (.cells #[.slice none 0 0] 29)
                     refine (implPutVoteX_any _ n0 _ l0 _ n1 _ l1 _ n2 _ l2 j0 j1 j2 _ (row_blks' le0.out (rowIs_below y0.out kb y0.out.lt)) (row_ints le1.out (rowIs_below y1.out kb y1.out.lt)) (row_votesB le2.out (rowIs_below y2.out kb y2.out.lt)) hm0 hm1 hm2 (Nat.le_refl _) (fun e => by cases e)).mono ?_
                     rintro e we ⟨AX, nX, cX, rfl, oe, be⟩
                     have zb := Lib.hid (rowIs_below (bx_row wy3 (.slice none 0 0) 29) be (by simp))
                     have lz := Lib.hid (show w19.heap.size ≤ wy3.heap.size from ua3.out.size)
                     have gz := Lib.hid (show wy3.heap.size < (wy3.alloc (.cells #[.slice none 0 0] 29)).heap.size by simp)
                     have hB := Lib.hid (Nat.le_trans ua3.out.size kb.size)
                     have hzb0 := (zb.out).cell (i := 0) (by omega)
                     have hzf0 := zb.out.frozen 0
                     have ye := Lib.hid oe
                     have ue := Lib.hid (ua3.out.trans ((kb.trans (be.mono kb.size)).mono ua3.out.size))
                     have hw_2_0 := (rowIs_below xB2.out ue.out xB2.out.lt).cell (i := 0) (by omega)
                     have hv_2_0 := (rowIs_below (rowIs_below xB2.out ue.out xB2.out.lt) (bx_below we (.cells #[.slice AX nX cX] 29)) (rowIs_below xB2.out ue.out xB2.out.lt).lt).cell (i := 0) (by omega)
                     have hu_2_0 := (rowIs_below (rowIs_below xB2.out ue.out xB2.out.lt) (bx_below we (.cells #[.slice none 0 0] 29)) (rowIs_below xB2.out ue.out xB2.out.lt).lt).cell (i := 0) (by omega)
                     have hs_2_0 := ((rowIs_below xB2.out ue.out xB2.out.lt).setOther (a := ⟨_, 0, none⟩) (Nat.ne_of_lt (Nat.lt_of_lt_of_le xB2.out.lt lz.out)) (.slice AX nX cX)).cell (i := 0) (by omega)
                     have hw_3_0 := row3_0 (rowIs_below xB3.out ue.out xB3.out.lt)
                     have hw_3_1 := row3_1 (rowIs_below xB3.out ue.out xB3.out.lt)
                     have hw_3_2 := row3_2 (rowIs_below xB3.out ue.out xB3.out.lt)
                     have hv_3_0 := row3_0 (rowIs_below (rowIs_below xB3.out ue.out xB3.out.lt) (bx_below we (.cells #[.slice AX nX cX] 29)) (rowIs_below xB3.out ue.out xB3.out.lt).lt)
                     have hv_3_1 := row3_1 (rowIs_below (rowIs_below xB3.out ue.out xB3.out.lt) (bx_below we (.cells #[.slice AX nX cX] 29)) (rowIs_below xB3.out ue.out xB3.out.lt).lt)
                     have hv_3_2 := row3_2 (rowIs_below (rowIs_below xB3.out ue.out xB3.out.lt) (bx_below we (.cells #[.slice AX nX cX] 29)) (rowIs_below xB3.out ue.out xB3.out.lt).lt)
                     have hu_3_0 := row3_0 (rowIs_below (rowIs_below xB3.out ue.out xB3.out.lt) (bx_below we (.cells #[.slice none 0 0] 29)) (rowIs_below xB3.out ue.out xB3.out.lt).lt)
                     have hu_3_1 := row3_1 (rowIs_below (rowIs_below xB3.out ue.out xB3.out.lt) (bx_below we (.cells #[.slice none 0 0] 29)) (rowIs_below xB3.out ue.out xB3.out.lt).lt)
                     have hu_3_2 := row3_2 (rowIs_below (rowIs_below xB3.out ue.out xB3.out.lt) (bx_below we (.cells #[.slice none 0 0] 29)) (rowIs_below xB3.out ue.out xB3.out.lt).lt)
                     have hs_3_0 := row3_0 ((rowIs_below xB3.out ue.out xB3.out.lt).setOther (a := ⟨_, 0, none⟩) (Nat.ne_of_lt (Nat.lt_of_lt_of_le xB3.out.lt lz.out)) (.slice AX nX cX))
                     have hs_3_1 := row3_1 ((rowIs_below xB3.out ue.out xB3.out.lt).setOther (a := ⟨_, 0, none⟩) (Nat.ne_of_lt (Nat.lt_of_lt_of_le xB3.out.lt lz.out)) (.slice AX nX cX))
                     have hs_3_2 := row3_2 ((rowIs_below xB3.out ue.out xB3.out.lt).setOther (a := ⟨_, 0, none⟩) (Nat.ne_of_lt (Nat.lt_of_lt_of_le xB3.out.lt lz.out)) (.slice AX nX cX))
                     clear be oe kb))
                all_goals
                  go_wp2_with fail
                  go_meet
                  case rel => first
                    | exact ⟨_, _, _, _, rfl, rfl, rfl, Lib.hid ((ye.out.below (bx_below we _)).fewer hB.out), Lib.hid (bx_row we _ _), Lib.hid ue.out.size, Lib.hid (ue.out.trans ((bx_below we _).mono ue.out.size))⟩
                    | exact ⟨_, _, _, _, rfl, rfl, rfl, Lib.hid ((ye.out.setBox gz.out _).fewer hB.out), Lib.hid ((zb.out.set 0 _).congr (fun i hi => by rw [if_pos (by omega)])), Lib.hid lz.out, Lib.hid (ue.out.setCell (p := ⟨_, 0, none⟩) lz.out _)⟩
              case rest =>
                obtain ⟨AH, nH, cH, gHB, rfl, rfl, rfl, yAH, xgHB, lgHB, k5⟩ := hcut
                skip
                have k6 := k5.out
                clear k5
                clear hcB2_0 hcB3_0 hcB3_1 hcB3_2
                have hnH : nH ≤ 100 := by rw [← yAH.out.len]; exact hlen0.out
                replace u := Lib.hid (u.out.trans (k6.mono u.out.size))
                replace sz := Lib.hid (Nat.le_trans sz.out k6.size)
                replace xB2 := Lib.hid (rowIs_below xB2.out k6 xB2.out.lt)
                replace xB3 := Lib.hid (rowIs_below xB3.out k6 xB3.out.lt)
                replace yAM := Lib.hid (yAM.out.below k6)
                replace xgMB := Lib.hid (rowIs_below xgMB.out k6 xgMB.out.lt)
                replace yAP := Lib.hid (yAP.out.below k6)
                replace xgPB := Lib.hid (rowIs_below xgPB.out k6 xgPB.out.lt)
                clear k6
                have hrgHB_0 := (xgHB.out).cell (i := 0) (by omega)
                have hrgMB_0 := (xgMB.out).cell (i := 0) (by omega)
                go_wp2_with fail
                refine (eqPool_b AH AM nH nM cH cM _ _ yAH.out.votes yAM.out.votes (by omega) (by omega)).mono ?_
                rintro e w20 ⟨rfl, b20⟩
                clear hrgHB_0 hrgMB_0
                replace u := Lib.hid (u.out.trans (b20.mono u.out.size))
                replace sz := Lib.hid (Nat.le_trans sz.out b20.size)
                replace xB2 := Lib.hid (rowIs_below xB2.out b20 xB2.out.lt)
                replace xB3 := Lib.hid (rowIs_below xB3.out b20 xB3.out.lt)
                replace yAM := Lib.hid (yAM.out.below b20)
                replace xgMB := Lib.hid (rowIs_below xgMB.out b20 xgMB.out.lt)
                replace yAP := Lib.hid (yAP.out.below b20)
                replace xgPB := Lib.hid (rowIs_below xgPB.out b20 xgPB.out.lt)
                replace yAH := Lib.hid (yAH.out.below b20)
                replace xgHB := Lib.hid (rowIs_below xgHB.out b20 xgHB.out.lt)
                clear b20
                have hrgPB_0 := (xgPB.out).cell (i := 0) (by omega)
                go_wp2_with fail
                refine (heldPool_b AP nP cP 1 _ yAP.out.votes (by omega) (by decide) (by decide)).mono ?_
                rintro e w21 ⟨rfl, b21⟩
                clear hrgPB_0
                replace u := Lib.hid (u.out.trans (b21.mono u.out.size))
                replace sz := Lib.hid (Nat.le_trans sz.out b21.size)
                replace xB2 := Lib.hid (rowIs_below xB2.out b21 xB2.out.lt)
                replace xB3 := Lib.hid (rowIs_below xB3.out b21 xB3.out.lt)
                replace yAM := Lib.hid (yAM.out.below b21)
                replace xgMB := Lib.hid (rowIs_below xgMB.out b21 xgMB.out.lt)
                replace yAP := Lib.hid (yAP.out.below b21)
                replace xgPB := Lib.hid (rowIs_below xgPB.out b21 xgPB.out.lt)
                replace yAH := Lib.hid (yAH.out.below b21)
                replace xgHB := Lib.hid (rowIs_below xgHB.out b21 xgHB.out.lt)
                clear b21
                go_wp2_with fail
                go_ret
                exact ⟨rfl, u.out⟩
      · skip
        have lf2 := Lib.hid (show (if (n2 : Int) ≤ 1048576 - (n0 : Int) then 1048576 - (n0 : Int) - (n2 : Int) else -1) = -1 from if_neg hz2)
        clear h0 h1 h2
        go_enter Try.func4, Try.ntmps4
        have tk0 : True := trivial
        go_wp2_with (first
          | (clear tk0; go_at_call 14; refine (szBlk_g _ n0 _ (1048576) _ hn0 (by omega) (by omega)).mono ?_; rintro e w' ⟨rfl, rfl⟩; rw [lf0.out]; have tk1 : True := trivial)
          | (clear tk1; go_at_call 30; refine (szPool_g _ n2 _ (1048576 - (n0 : Int)) _ hn2 (by omega) (by omega)).mono ?_; rintro e w2z ⟨rfl, bz⟩; rw [lf2.out]; replace u := Lib.hid (u.out.trans (bz.mono u.out.size)); replace sz := Lib.hid (Nat.le_trans sz.out bz.size); replace xB2 := Lib.hid (rowIs_below xB2.out bz xB2.out.lt); replace xB3 := Lib.hid (rowIs_below xB3.out bz xB3.out.lt); clear bz hcB2_0 hcB3_0 hcB3_1 hcB3_2; have hcB2_0 := (xB2.out).cell (i := 0) (by omega); have hcB3_0 := row3_0 (xB3.out); have hcB3_1 := row3_1 (xB3.out); have hcB3_2 := row3_2 (xB3.out); have tk2 : True := trivial))
        go_ret
        exact ⟨rfl, u.out⟩
    · skip
      have lf0 := Lib.hid (show (if (n0 : Int) ≤ 1048576 then 1048576 - (n0 : Int) else -1) = -1 from if_neg hz0)
      clear h0 h1 h2
      go_enter Try.func4, Try.ntmps4
      have tk0 : True := trivial
      go_wp2_with (first
        | (clear tk0; go_at_call 14; refine (szBlk_g _ n0 _ (1048576) _ hn0 (by omega) (by omega)).mono ?_; rintro e w' ⟨rfl, rfl⟩; rw [lf0.out]; have tk1 : True := trivial))
      go_ret
      exact ⟨rfl, u.out⟩
  · skip
    have hgt : (1048576 : Int) < (n1 : Int) := by omega
    clear h0 h1 h2
    go_enter Try.func4, Try.ntmps4
    go_wp2_with fail
    go_ret
    exact ⟨rfl, u.out⟩
end Go.Proofs.Ytlobjfipefibaaa
