/- What is proved here: the law on MergePools returns true at every argument, and writes nothing that was there. No conditions. -/
import Derived.Test.YtlobjfipefibaaaMergeImpl
import Derived.Test.YtlobjfipefibaaaPoolBox
import Derived.Test.YtlobjfipefibaaaOpenVotes
import Derived.Deep.Cut
import Derived.Deep.CutRange
import Derived.Deep.RegionHeld3
namespace Go.Proofs.Ytlobjfipefibaaa
open Go.RowKit

set_option maxRecDepth 100000 in
set_option maxHeartbeats 32000000 in
theorem lawMergePools (A0 : Option Addr) (n0 c0 : Nat) (l0 : List Blk) (A1 : Option Addr) (n1 c1 : Nat) (l1 : List Int) (A2 : Option Addr) (n2 c2 : Nat) (l2 : List Vt) (A3 : Option Addr) (n3 c3 : Nat) (l3 : List Vt) (w : World) (h0 : BlksAt w w.heap.size A0 n0 l0) (hn0 : n0 ≤ 140737488351232) (h1 : IntsAt w w.heap.size A1 n1 l1) (hn1 : n1 ≤ 140737488351232) (h2 : VotesAt w w.heap.size A2 n2 l2) (hn2 : n2 ≤ 9223372036854775807) (h3 : VotesAt w w.heap.size A3 n3 l3) (hn3 : n3 ≤ 9223372036854775807) :
    Calls Try.prog 5 #[.slice A0 n0 c0, .slice A1 n1 c1, .agg #[.slice A2 n2 c2], .agg #[.slice A3 n3 c3]] w fun e w' => e = .returned (.bool true) ∧ Below w.heap.size w w' := by
  have u := Lib.hid (Below.refl w.heap.size w)
  have xB2 := Lib.hid (bx_row (w) (.slice A2 n2 c2) 46)
  replace u := Lib.hid (u.out.trans ((bx_below (w) (.cells #[.slice A2 n2 c2] 46)).mono u.out.size))
  replace xB2 := Lib.hid (rowIs_below xB2.out (bx_below ((w).alloc (.cells #[.slice A2 n2 c2] 46)) (.cells #[.slice A3 n3 c3] 46)) xB2.out.lt)
  have xB3 := Lib.hid (bx_row ((w).alloc (.cells #[.slice A2 n2 c2] 46)) (.slice A3 n3 c3) 46)
  replace u := Lib.hid (u.out.trans ((bx_below ((w).alloc (.cells #[.slice A2 n2 c2] 46)) (.cells #[.slice A3 n3 c3] 46)).mono u.out.size))
  simp only [World.size_alloc] at xB3
  have sz := Lib.hid (show w.heap.size + 2 ≤ (((w).alloc (.cells #[.slice A2 n2 c2] 46)).alloc (.cells #[.slice A3 n3 c3] 46)).heap.size by simp)
  have lo_xB2 := Lib.hid (show w.heap.size + 0 ≤ w.heap.size by omega)
  have hi_xB2 := Lib.hid (show w.heap.size < w.heap.size + 1 by omega)
  have lo_xB3 := Lib.hid (show w.heap.size + 1 ≤ (w.heap.size + 1) by omega)
  have hi_xB3 := Lib.hid (show (w.heap.size + 1) < w.heap.size + 2 by omega)
  have hcB2 := xB2.out.cell (i := 0) (by omega)
  have hcB3 := xB3.out.cell (i := 0) (by omega)
  by_cases hm1 : n1 ≤ 1048576
  · skip
    by_cases hz0 : (n0 : Int) ≤ 1048576
    · skip
      have hm0 : n0 ≤ 1048576 := by omega
      have lf0 := Lib.hid (show (if (n0 : Int) ≤ 1048576 then 1048576 - (n0 : Int) else -1) = 1048576 - (n0 : Int) from if_pos hz0)
      have lp0 : ¬ (1048576 - (n0 : Int) < 0) := by omega
      by_cases hz2 : (n2 : Int) ≤ 1048576 - (n0 : Int)
      · skip
        have hm2 : n2 ≤ 1048576 := by omega
        have lf2 := Lib.hid (show (if (n2 : Int) ≤ 1048576 - (n0 : Int) then 1048576 - (n0 : Int) - (n2 : Int) else -1) = 1048576 - (n0 : Int) - (n2 : Int) from if_pos hz2)
        have lp2 : ¬ (1048576 - (n0 : Int) - (n2 : Int) < 0) := by omega
        by_cases hz3 : (n3 : Int) ≤ 1048576 - (n0 : Int) - (n2 : Int)
        · skip
          have hm3 : n3 ≤ 1048576 := by omega
          have lf3 := Lib.hid (show (if (n3 : Int) ≤ 1048576 - (n0 : Int) - (n2 : Int) then 1048576 - (n0 : Int) - (n2 : Int) - (n3 : Int) else -1) = 1048576 - (n0 : Int) - (n2 : Int) - (n3 : Int) from if_pos hz3)
          have lp3 : ¬ (1048576 - (n0 : Int) - (n2 : Int) - (n3 : Int) < 0) := by omega
          have le0 := Lib.hid h0.1; have ha0 := Lib.hid h0
          have le1 := Lib.hid h1.1; have ha1 := Lib.hid h1
          have le2 := Lib.hid h2.1; have ha2 := Lib.hid h2
          have le3 := Lib.hid h3.1; have ha3 := Lib.hid h3
          clear h0 h1 h2 h3 hz0 hz2 hz3
          have hq1 : (mrgOK l0 l1 l2 l3 != mrgOK l0 l1 l2 l3) = false := by simp
          have hlen := Lib.hid (mrgR_len l0 l1 l2 l3)
          go_enter Try.func5, Try.ntmps5
          have tk0 : True := trivial
          go_upto_region 13 with (first
            | (clear tk0; go_at_call 14; refine (szBlk_g _ n0 _ (1048576) _ hn0 (by omega) (by omega)).mono ?_; rintro e w' ⟨rfl, rfl⟩; rw [lf0.out]; have tk1 : True := trivial)
            | (clear tk1; go_at_call 30; refine (szPool_g _ n2 _ (1048576 - (n0 : Int)) _ hn2 (by omega) (by omega)).mono ?_; rintro e w2z ⟨rfl, bz⟩; rw [lf2.out]; replace u := Lib.hid (u.out.trans (bz.mono u.out.size)); replace sz := Lib.hid (Nat.le_trans sz.out bz.size); replace xB2 := Lib.hid (rowIs_below xB2.out bz xB2.out.lt); replace xB3 := Lib.hid (rowIs_below xB3.out bz xB3.out.lt); clear bz hcB2 hcB3; have hcB2 := xB2.out.cell (i := 0) (by omega); have hcB3 := xB3.out.cell (i := 0) (by omega); have tk2 : True := trivial)
            | (clear tk2; go_at_call 30; refine (szPool_g _ n3 _ (1048576 - (n0 : Int) - (n2 : Int)) _ hn3 (by omega) (by omega)).mono ?_; rintro e w3z ⟨rfl, bz⟩; rw [lf3.out]; replace u := Lib.hid (u.out.trans (bz.mono u.out.size)); replace sz := Lib.hid (Nat.le_trans sz.out bz.size); replace xB2 := Lib.hid (rowIs_below xB2.out bz xB2.out.lt); replace xB3 := Lib.hid (rowIs_below xB3.out bz xB3.out.lt); clear bz hcB2 hcB3; have hcB2 := xB2.out.cell (i := 0) (by omega); have hcB3 := xB3.out.cell (i := 0) (by omega); have tk3 : True := trivial))
          clear tk3
          have hT := Lib.hid (toBlk_g A0 n0 c0 l0 w3z.drew (show BlksAt w3z.drew w3z.drew.heap.size A0 n0 l0 from ⟨(ha0.out.up u.out).1, (ha0.out.up u.out).2⟩) hm0)
          go_cut [10, 11] from 41 to 52 (fun s t wx => ∃ AX nX cX pX, s = .pointer (some ⟨pX, 0, none⟩) ∧ t = .bool (mrgOK l0 l1 l2 l3) ∧ Hid (OwnV wx w3z.heap.size AX nX (mrgR l0 l1 l2 l3)) ∧ Hid (wx.rowIs pX 29 1 (fun _ => .slice AX nX cX)) ∧ Hid (w3z.heap.size ≤ pX) ∧ Hid (Below w3z.heap.size w3z wx))
          case first =>
            have tk0 : True := trivial
            have hz_2 := (rowIs_below (show w3z.drew.rowIs w.heap.size 46 1 (fun _ => .slice A2 n2 c2) from xB2.out) (bx_below w3z.drew (.cells #[.slice none 0 0] 29)) (show w.heap.size < w3z.drew.heap.size from xB2.out.lt)).cell (i := 0) (by omega)
            have hz_3 := (rowIs_below (show w3z.drew.rowIs (w.heap.size + 1) 46 1 (fun _ => .slice A3 n3 c3) from xB3.out) (bx_below w3z.drew (.cells #[.slice none 0 0] 29)) (show (w.heap.size + 1) < w3z.drew.heap.size from xB3.out.lt)).cell (i := 0) (by omega)
            go_region_held3 (fun w' => w'.cell? ⟨w.heap.size, 0, none⟩ = some (.slice A2 n2 c2) ∧ w'.cell? ⟨(w.heap.size + 1), 0, none⟩ = some (.slice A3 n3 c3)) (first | assumption | (refine ⟨?_, ?_⟩ <;> assumption) | go_keep) (first
              | (clear tk0
                 go_at_call 17
                 refine hT.out.mono ?_
                 rintro e wy0 ⟨gy0, rfl, ry, by0, _, _⟩
                 have by_ := by0
                 have y0 := Lib.hid ry
                 have ua0 := Lib.hid (show Below w3z.heap.size w3z wy0 from ⟨by_.os, by_.tape, by_.output, by_.size, by_.block⟩)
                 have hd0_2 := rowIs_below xB2.out ua0.out xB2.out.lt |>.cell (i := 0) (by omega)
                 have hd0_3 := rowIs_below xB3.out ua0.out xB3.out.lt |>.cell (i := 0) (by omega)
                 have he0_2 := (fun b => rowIs_below (rowIs_below xB2.out ua0.out xB2.out.lt) b (rowIs_below xB2.out ua0.out xB2.out.lt).lt |>.cell (i := 0) (by omega)) (bx_below wy0 (.cells #[.slice none 0 0] 29))
                 have he0_3 := (fun b => rowIs_below (rowIs_below xB3.out ua0.out xB3.out.lt) b (rowIs_below xB3.out ua0.out xB3.out.lt).lt |>.cell (i := 0) (by omega)) (bx_below wy0 (.cells #[.slice none 0 0] 29))
                 clear ry by_ by0
                 have tk1 : True := trivial)
              | (clear tk0
                 go_at_call 17
                 have kb := bx_below w3z.drew (.cells #[.slice none 0 0] 29)
                 refine (toBlk_g A0 n0 c0 l0 _ ((show BlksAt w3z.drew w3z.drew.heap.size A0 n0 l0 from ⟨(ha0.out.up u.out).1, (ha0.out.up u.out).2⟩).up kb) hm0).mono ?_
                 rintro e wy0 ⟨gy0, rfl, ry, by0, _, _⟩
                 have zb := Lib.hid (show wy0.rowIs w3z.heap.size 29 1 (fun _ => .slice none 0 0) from rowIs_below (bx_row w3z.drew (.slice none 0 0) 29) by0 (by simp))
                 have lz := Lib.hid (show w3z.heap.size ≤ w3z.heap.size from Nat.le_refl _)
                 have by_ := kb.trans (by0.mono kb.size)
                 have y0 := Lib.hid ry
                 have ua0 := Lib.hid (show Below w3z.heap.size w3z wy0 from ⟨by_.os, by_.tape, by_.output, by_.size, by_.block⟩)
                 have hd0_2 := rowIs_below xB2.out ua0.out xB2.out.lt |>.cell (i := 0) (by omega)
                 have hd0_3 := rowIs_below xB3.out ua0.out xB3.out.lt |>.cell (i := 0) (by omega)
                 clear ry by_ by0 kb
                 have tk1 : True := trivial)
              | (clear tk1
                 go_at_call 18
                 refine (toInt_g A1 n1 c1 l1 _ (ha1.out.up' (u.out.trans (ua0.out.mono u.out.size))) hm1).mono ?_
                 rintro e wy1 ⟨gy1, rfl, ry, by0, _, _⟩
                 have by_ := by0
                 try replace zb := Lib.hid (rowIs_below zb.out by_ zb.out.lt)
                 have y1 := Lib.hid ry
                 replace y0 := Lib.hid (rowIs_below y0.out by_ y0.out.lt)
                 have ua1 := Lib.hid (ua0.out.trans (by_.mono ua0.out.size))
                 have hd1_2 := rowIs_below xB2.out ua1.out xB2.out.lt |>.cell (i := 0) (by omega)
                 have hd1_3 := rowIs_below xB3.out ua1.out xB3.out.lt |>.cell (i := 0) (by omega)
                 have he1_2 := (fun b => rowIs_below (rowIs_below xB2.out ua1.out xB2.out.lt) b (rowIs_below xB2.out ua1.out xB2.out.lt).lt |>.cell (i := 0) (by omega)) (bx_below wy1 (.cells #[.slice none 0 0] 29))
                 have he1_3 := (fun b => rowIs_below (rowIs_below xB3.out ua1.out xB3.out.lt) b (rowIs_below xB3.out ua1.out xB3.out.lt).lt |>.cell (i := 0) (by omega)) (bx_below wy1 (.cells #[.slice none 0 0] 29))
                 clear ry by_ by0
                 have tk2 : True := trivial)
              | (clear tk1
                 go_at_call 18
                 have kb := bx_below wy0 (.cells #[.slice none 0 0] 29)
                 refine (toInt_g A1 n1 c1 l1 _ (ha1.out.up' ((u.out.trans (ua0.out.mono u.out.size)).trans (kb.mono (u.out.trans (ua0.out.mono u.out.size)).size))) hm1).mono ?_
                 rintro e wy1 ⟨gy1, rfl, ry, by0, _, _⟩
                 have zb := Lib.hid (show wy1.rowIs wy0.heap.size 29 1 (fun _ => .slice none 0 0) from rowIs_below (bx_row wy0 (.slice none 0 0) 29) by0 (by simp))
                 have lz := Lib.hid (show w3z.heap.size ≤ wy0.heap.size from ua0.out.size)
                 have by_ := kb.trans (by0.mono kb.size)
                 have y1 := Lib.hid ry
                 replace y0 := Lib.hid (rowIs_below y0.out by_ y0.out.lt)
                 have ua1 := Lib.hid (ua0.out.trans (by_.mono ua0.out.size))
                 have hd1_2 := rowIs_below xB2.out ua1.out xB2.out.lt |>.cell (i := 0) (by omega)
                 have hd1_3 := rowIs_below xB3.out ua1.out xB3.out.lt |>.cell (i := 0) (by omega)
                 clear ry by_ by0 kb
                 have tk2 : True := trivial)
              | (clear tk2
                 go_at_call 32
                 refine (toPool_g A2 n2 c2 l2 _ (ha2.out.up (u.out.trans (ua1.out.mono u.out.size))) hm2).mono ?_
                 rintro e wy2 ⟨gy2, rfl, ry, by0, _, _⟩
                 have by_ := by0
                 try replace zb := Lib.hid (rowIs_below zb.out by_ zb.out.lt)
                 have y2 := Lib.hid ry
                 replace y0 := Lib.hid (rowIs_below y0.out by_ y0.out.lt)
                 replace y1 := Lib.hid (rowIs_below y1.out by_ y1.out.lt)
                 have ua2 := Lib.hid (ua1.out.trans (by_.mono ua1.out.size))
                 have hd2_2 := rowIs_below xB2.out ua2.out xB2.out.lt |>.cell (i := 0) (by omega)
                 have hd2_3 := rowIs_below xB3.out ua2.out xB3.out.lt |>.cell (i := 0) (by omega)
                 have he2_2 := (fun b => rowIs_below (rowIs_below xB2.out ua2.out xB2.out.lt) b (rowIs_below xB2.out ua2.out xB2.out.lt).lt |>.cell (i := 0) (by omega)) (bx_below wy2 (.cells #[.slice none 0 0] 29))
                 have he2_3 := (fun b => rowIs_below (rowIs_below xB3.out ua2.out xB3.out.lt) b (rowIs_below xB3.out ua2.out xB3.out.lt).lt |>.cell (i := 0) (by omega)) (bx_below wy2 (.cells #[.slice none 0 0] 29))
                 clear ry by_ by0
                 have tk3 : True := trivial)
              | (clear tk2
                 go_at_call 32
                 have kb := bx_below wy1 (.cells #[.slice none 0 0] 29)
                 refine (toPool_g A2 n2 c2 l2 _ (ha2.out.up ((u.out.trans (ua1.out.mono u.out.size)).trans (kb.mono (u.out.trans (ua1.out.mono u.out.size)).size))) hm2).mono ?_
                 rintro e wy2 ⟨gy2, rfl, ry, by0, _, _⟩
                 have zb := Lib.hid (show wy2.rowIs wy1.heap.size 29 1 (fun _ => .slice none 0 0) from rowIs_below (bx_row wy1 (.slice none 0 0) 29) by0 (by simp))
                 have lz := Lib.hid (show w3z.heap.size ≤ wy1.heap.size from ua1.out.size)
                 have by_ := kb.trans (by0.mono kb.size)
                 have y2 := Lib.hid ry
                 replace y0 := Lib.hid (rowIs_below y0.out by_ y0.out.lt)
                 replace y1 := Lib.hid (rowIs_below y1.out by_ y1.out.lt)
                 have ua2 := Lib.hid (ua1.out.trans (by_.mono ua1.out.size))
                 have hd2_2 := rowIs_below xB2.out ua2.out xB2.out.lt |>.cell (i := 0) (by omega)
                 have hd2_3 := rowIs_below xB3.out ua2.out xB3.out.lt |>.cell (i := 0) (by omega)
                 clear ry by_ by0 kb
                 have tk3 : True := trivial)
              | (clear tk3
                 go_at_call 32
                 refine (toPool_g A3 n3 c3 l3 _ (ha3.out.up (u.out.trans (ua2.out.mono u.out.size))) hm3).mono ?_
                 rintro e wy3 ⟨gy3, rfl, ry, by0, _, _⟩
                 have by_ := by0
                 try replace zb := Lib.hid (rowIs_below zb.out by_ zb.out.lt)
                 have y3 := Lib.hid ry
                 replace y0 := Lib.hid (rowIs_below y0.out by_ y0.out.lt)
                 replace y1 := Lib.hid (rowIs_below y1.out by_ y1.out.lt)
                 replace y2 := Lib.hid (rowIs_below y2.out by_ y2.out.lt)
                 have ua3 := Lib.hid (ua2.out.trans (by_.mono ua2.out.size))
                 have hd3_2 := rowIs_below xB2.out ua3.out xB2.out.lt |>.cell (i := 0) (by omega)
                 have hd3_3 := rowIs_below xB3.out ua3.out xB3.out.lt |>.cell (i := 0) (by omega)
                 have he3_2 := (fun b => rowIs_below (rowIs_below xB2.out ua3.out xB2.out.lt) b (rowIs_below xB2.out ua3.out xB2.out.lt).lt |>.cell (i := 0) (by omega)) (bx_below wy3 (.cells #[.slice none 0 0] 29))
                 have he3_3 := (fun b => rowIs_below (rowIs_below xB3.out ua3.out xB3.out.lt) b (rowIs_below xB3.out ua3.out xB3.out.lt).lt |>.cell (i := 0) (by omega)) (bx_below wy3 (.cells #[.slice none 0 0] 29))
                 clear ry by_ by0
                 have tk4 : True := trivial)
              | (clear tk3
                 go_at_call 32
                 have kb := bx_below wy2 (.cells #[.slice none 0 0] 29)
                 refine (toPool_g A3 n3 c3 l3 _ (ha3.out.up ((u.out.trans (ua2.out.mono u.out.size)).trans (kb.mono (u.out.trans (ua2.out.mono u.out.size)).size))) hm3).mono ?_
                 rintro e wy3 ⟨gy3, rfl, ry, by0, _, _⟩
                 have zb := Lib.hid (show wy3.rowIs wy2.heap.size 29 1 (fun _ => .slice none 0 0) from rowIs_below (bx_row wy2 (.slice none 0 0) 29) by0 (by simp))
                 have lz := Lib.hid (show w3z.heap.size ≤ wy2.heap.size from ua2.out.size)
                 have by_ := kb.trans (by0.mono kb.size)
                 have y3 := Lib.hid ry
                 replace y0 := Lib.hid (rowIs_below y0.out by_ y0.out.lt)
                 replace y1 := Lib.hid (rowIs_below y1.out by_ y1.out.lt)
                 replace y2 := Lib.hid (rowIs_below y2.out by_ y2.out.lt)
                 have ua3 := Lib.hid (ua2.out.trans (by_.mono ua2.out.size))
                 have hd3_2 := rowIs_below xB2.out ua3.out xB2.out.lt |>.cell (i := 0) (by omega)
                 have hd3_3 := rowIs_below xB3.out ua3.out xB3.out.lt |>.cell (i := 0) (by omega)
                 clear ry by_ by0 kb
                 have tk4 : True := trivial)
              | (clear tk4
                 go_at_call 35
                 refine (specMergePoolsX_any _ n0 _ l0 _ n1 _ l1 _ n2 _ l2 _ n3 _ l3 _ (row_blks' le0.out y0.out) (row_ints le1.out y1.out) (row_votesB le2.out y2.out) (row_votesB le3.out y3.out) hm0 hm1 hm2 hm3 (Nat.le_refl _) (fun e => by cases e) (fun e => by cases e)).mono ?_
                 rintro e we ⟨AX, nX, cX, rfl, oe, be⟩
                 try have gz := Lib.hid zb.out.lt
                 try replace zb := Lib.hid (rowIs_below zb.out be zb.out.lt)
                 try have hzb := zb.out.cell (i := 0) (by omega)
                 try have hzf := zb.out.frozen 0
                 have hB := Lib.hid ua3.out.size
                 have ye := Lib.hid oe
                 have ue := Lib.hid (ua3.out.trans (be.mono ua3.out.size))
                 have hw_2 := rowIs_below xB2.out ue.out xB2.out.lt |>.cell (i := 0) (by omega)
                 have hv_2 := (fun b => rowIs_below (rowIs_below xB2.out ue.out xB2.out.lt) b (rowIs_below xB2.out ue.out xB2.out.lt).lt |>.cell (i := 0) (by omega)) (bx_below we (.cells #[.slice AX nX cX] 29))
                 have hu_2 := (fun b => rowIs_below (rowIs_below xB2.out ue.out xB2.out.lt) b (rowIs_below xB2.out ue.out xB2.out.lt).lt |>.cell (i := 0) (by omega)) (bx_below we (.cells #[.slice none 0 0] 29))
                 try have hs_2 := keep_set zb.out (rowIs_below xB2.out ue.out xB2.out.lt) (Nat.lt_of_lt_of_le xB2.out.lt lz.out) (Value.slice AX nX cX)
                 have hw_3 := rowIs_below xB3.out ue.out xB3.out.lt |>.cell (i := 0) (by omega)
                 have hv_3 := (fun b => rowIs_below (rowIs_below xB3.out ue.out xB3.out.lt) b (rowIs_below xB3.out ue.out xB3.out.lt).lt |>.cell (i := 0) (by omega)) (bx_below we (.cells #[.slice AX nX cX] 29))
                 have hu_3 := (fun b => rowIs_below (rowIs_below xB3.out ue.out xB3.out.lt) b (rowIs_below xB3.out ue.out xB3.out.lt).lt |>.cell (i := 0) (by omega)) (bx_below we (.cells #[.slice none 0 0] 29))
                 try have hs_3 := keep_set zb.out (rowIs_below xB3.out ue.out xB3.out.lt) (Nat.lt_of_lt_of_le xB3.out.lt lz.out) (Value.slice AX nX cX)
                 clear be oe)
              | (clear tk4
                 go_at_call 35
                 have kb := bx_below wy3 (.cells #[.slice none 0 0] 29)
                 refine (specMergePoolsX_any _ n0 _ l0 _ n1 _ l1 _ n2 _ l2 _ n3 _ l3 _ (row_blks' le0.out (rowIs_below y0.out kb y0.out.lt)) (row_ints le1.out (rowIs_below y1.out kb y1.out.lt)) (row_votesB le2.out (rowIs_below y2.out kb y2.out.lt)) (row_votesB le3.out (rowIs_below y3.out kb y3.out.lt)) hm0 hm1 hm2 hm3 (Nat.le_refl _) (fun e => by cases e) (fun e => by cases e)).mono ?_
                 rintro e we ⟨AX, nX, cX, rfl, oe, be⟩
                 have zb := Lib.hid (rowIs_below (bx_row wy3 (.slice none 0 0) 29) be (by simp))
                 have lz := Lib.hid (show w3z.heap.size ≤ wy3.heap.size from ua3.out.size)
                 have gz := Lib.hid (show wy3.heap.size < (wy3.alloc (.cells #[.slice none 0 0] 29)).heap.size by simp)
                 have hB := Lib.hid (Nat.le_trans ua3.out.size kb.size)
                 have hzb := zb.out.cell (i := 0) (by omega); have hzf := zb.out.frozen 0
                 have ye := Lib.hid oe
                 have ue := Lib.hid (ua3.out.trans ((kb.trans (be.mono kb.size)).mono ua3.out.size))
                 have hw_2 := rowIs_below xB2.out ue.out xB2.out.lt |>.cell (i := 0) (by omega)
                 have hv_2 := (fun b => rowIs_below (rowIs_below xB2.out ue.out xB2.out.lt) b (rowIs_below xB2.out ue.out xB2.out.lt).lt |>.cell (i := 0) (by omega)) (bx_below we (.cells #[.slice AX nX cX] 29))
                 have hu_2 := (fun b => rowIs_below (rowIs_below xB2.out ue.out xB2.out.lt) b (rowIs_below xB2.out ue.out xB2.out.lt).lt |>.cell (i := 0) (by omega)) (bx_below we (.cells #[.slice none 0 0] 29))
                 have hs_2 := keep_set zb.out (rowIs_below xB2.out ue.out xB2.out.lt) (Nat.lt_of_lt_of_le xB2.out.lt lz.out) (Value.slice AX nX cX)
                 have hw_3 := rowIs_below xB3.out ue.out xB3.out.lt |>.cell (i := 0) (by omega)
                 have hv_3 := (fun b => rowIs_below (rowIs_below xB3.out ue.out xB3.out.lt) b (rowIs_below xB3.out ue.out xB3.out.lt).lt |>.cell (i := 0) (by omega)) (bx_below we (.cells #[.slice AX nX cX] 29))
                 have hu_3 := (fun b => rowIs_below (rowIs_below xB3.out ue.out xB3.out.lt) b (rowIs_below xB3.out ue.out xB3.out.lt).lt |>.cell (i := 0) (by omega)) (bx_below we (.cells #[.slice none 0 0] 29))
                 have hs_3 := keep_set zb.out (rowIs_below xB3.out ue.out xB3.out.lt) (Nat.lt_of_lt_of_le xB3.out.lt lz.out) (Value.slice AX nX cX)
                 clear be oe kb))
            all_goals
              go_wp2_with fail
              go_meet
              case rel => first
                | exact ⟨_, _, _, _, rfl, rfl, Lib.hid ((ye.out.below (bx_below we _)).fewer hB.out), Lib.hid (bx_row we _ _), Lib.hid ue.out.size, Lib.hid (ue.out.trans ((bx_below we _).mono ue.out.size))⟩
                | exact ⟨_, _, _, _, rfl, rfl, Lib.hid ((ye.out.setBox gz.out _).fewer hB.out), Lib.hid ((zb.out.set 0 _).congr (fun i hi => by rw [if_pos (by omega)])), Lib.hid lz.out, Lib.hid (ue.out.setCell (p := ⟨_, 0, none⟩) lz.out _)⟩
          case rest =>
            obtain ⟨AM, nM, cM, gMB, rfl, rfl, yM, xgMB, lgMB, k5⟩ := hcut
            skip
            clear hT
            have k6 := k5.out
            clear k5
            clear hcB2 hcB3
            have hnM : nM ≤ 100 := by rw [← yM.out.len]; exact hlen.out
            have lo_yM := Lib.hid (fun ad (e : AM = some ad) => Nat.le_trans sz.out (yM.out.low ad e).1)
            have mo_yM := Lib.hid (Nat.le_trans sz.out k6.size)
            have hi_yM := Lib.hid (fun ad (e : AM = some ad) => (yM.out.low ad e).2)
            have lo_xgMB := Lib.hid (Nat.le_trans sz.out lgMB.out)
            have hi_xgMB := Lib.hid xgMB.out.lt
            replace u := Lib.hid (u.out.trans (k6.mono u.out.size))
            replace sz := Lib.hid (Nat.le_trans sz.out k6.size)
            replace xB2 := Lib.hid (rowIs_below xB2.out k6 xB2.out.lt)
            replace xB3 := Lib.hid (rowIs_below xB3.out k6 xB3.out.lt)
            clear k6
            clear sz
            have sz := Lib.hid (Nat.le_refl wc.heap.size)
            go_wp2_with fail
            refine (toBlk_g A0 n0 c0 l0 _ (ha0.out.up u.out) hm0).mono ?_
            rintro e w6 ⟨gP, rfl, rP, b6, dP, fP⟩
            have xP := Lib.hid rP; clear rP
            have lo_xP := Lib.hid (Nat.le_trans sz.out dP); have hi_xP := Lib.hid fP; clear dP fP
            replace u := Lib.hid (u.out.trans (b6.mono u.out.size))
            replace sz := Lib.hid (Nat.le_trans sz.out b6.size)
            replace xB2 := Lib.hid (rowIs_below xB2.out b6 xB2.out.lt)
            replace xB3 := Lib.hid (rowIs_below xB3.out b6 xB3.out.lt)
            replace yM := Lib.hid (yM.out.below b6)
            replace xgMB := Lib.hid (rowIs_below xgMB.out b6 xgMB.out.lt)
            clear b6
            clear sz
            have sz := Lib.hid (Nat.le_refl w6.heap.size)
            go_wp2_with fail
            refine (toInt_g A1 n1 c1 l1 _ (ha1.out.up' u.out) hm1).mono ?_
            rintro e w7 ⟨gQ, rfl, rQ, b7, dQ, fQ⟩
            have xQ := Lib.hid rQ; clear rQ
            have lo_xQ := Lib.hid (Nat.le_trans sz.out dQ); have hi_xQ := Lib.hid fQ; clear dQ fQ
            replace u := Lib.hid (u.out.trans (b7.mono u.out.size))
            replace sz := Lib.hid (Nat.le_trans sz.out b7.size)
            replace xB2 := Lib.hid (rowIs_below xB2.out b7 xB2.out.lt)
            replace xB3 := Lib.hid (rowIs_below xB3.out b7 xB3.out.lt)
            replace yM := Lib.hid (yM.out.below b7)
            replace xgMB := Lib.hid (rowIs_below xgMB.out b7 xgMB.out.lt)
            replace xP := Lib.hid (rowIs_below xP.out b7 xP.out.lt)
            clear b7
            clear sz
            have sz := Lib.hid (Nat.le_refl w7.heap.size)
            have hcB2 := xB2.out.cell (i := 0) (by omega)
            go_wp2_with fail
            refine (toPool_g A2 n2 c2 l2 _ (ha2.out.up u.out) hm2).mono ?_
            rintro e w8 ⟨gR, rfl, rR, b8, dR, fR⟩
            clear hcB2
            have xR := Lib.hid rR; clear rR
            have lo_xR := Lib.hid (Nat.le_trans sz.out dR); have hi_xR := Lib.hid fR; clear dR fR
            replace u := Lib.hid (u.out.trans (b8.mono u.out.size))
            replace sz := Lib.hid (Nat.le_trans sz.out b8.size)
            replace xB2 := Lib.hid (rowIs_below xB2.out b8 xB2.out.lt)
            replace xB3 := Lib.hid (rowIs_below xB3.out b8 xB3.out.lt)
            replace yM := Lib.hid (yM.out.below b8)
            replace xgMB := Lib.hid (rowIs_below xgMB.out b8 xgMB.out.lt)
            replace xP := Lib.hid (rowIs_below xP.out b8 xP.out.lt)
            replace xQ := Lib.hid (rowIs_below xQ.out b8 xQ.out.lt)
            clear b8
            clear sz
            have sz := Lib.hid (Nat.le_refl w8.heap.size)
            have xbR := Lib.hid (bx_row w8 (.slice (some ⟨gR, 0, none⟩) n2 n2) 29)
            have kk : Below w8.heap.size w8 (w8.alloc (.cells #[.slice (some ⟨gR, 0, none⟩) n2 n2] 29)) := bx_below w8 _
            have lo_xbR := Lib.hid (Nat.le_refl w8.heap.size); have hi_xbR := Lib.hid (Nat.lt_succ_self w8.heap.size)
            replace u := Lib.hid (u.out.trans (kk.mono u.out.size))
            replace sz := Lib.hid (Nat.le_trans sz.out kk.size)
            replace xB2 := Lib.hid (rowIs_below xB2.out kk xB2.out.lt)
            replace xB3 := Lib.hid (rowIs_below xB3.out kk xB3.out.lt)
            replace yM := Lib.hid (yM.out.below kk)
            replace xgMB := Lib.hid (rowIs_below xgMB.out kk xgMB.out.lt)
            replace xP := Lib.hid (rowIs_below xP.out kk xP.out.lt)
            replace xQ := Lib.hid (rowIs_below xQ.out kk xQ.out.lt)
            replace xR := Lib.hid (rowIs_below xR.out kk xR.out.lt)
            clear kk
            clear sz
            have sz := Lib.hid (show w8.heap.size + 1 ≤ (w8.alloc (.cells #[.slice (some ⟨gR, 0, none⟩) n2 n2] 29)).heap.size by simp)
            have hcB3 := xB3.out.cell (i := 0) (by omega)
            go_wp2_with fail
            refine (toPool_g A3 n3 c3 l3 _ (ha3.out.up u.out) hm3).mono ?_
            rintro e w9 ⟨gS, rfl, rS, b9, dS, fS⟩
            clear hcB3
            have xS := Lib.hid rS; clear rS
            have lo_xS := Lib.hid (Nat.le_trans sz.out dS); have hi_xS := Lib.hid fS; clear dS fS
            replace u := Lib.hid (u.out.trans (b9.mono u.out.size))
            replace sz := Lib.hid (Nat.le_trans sz.out b9.size)
            replace xB2 := Lib.hid (rowIs_below xB2.out b9 xB2.out.lt)
            replace xB3 := Lib.hid (rowIs_below xB3.out b9 xB3.out.lt)
            replace yM := Lib.hid (yM.out.below b9)
            replace xgMB := Lib.hid (rowIs_below xgMB.out b9 xgMB.out.lt)
            replace xP := Lib.hid (rowIs_below xP.out b9 xP.out.lt)
            replace xQ := Lib.hid (rowIs_below xQ.out b9 xQ.out.lt)
            replace xR := Lib.hid (rowIs_below xR.out b9 xR.out.lt)
            replace xbR := Lib.hid (rowIs_below xbR.out b9 xbR.out.lt)
            clear b9
            clear sz
            have sz := Lib.hid (Nat.le_refl w9.heap.size)
            have xbS := Lib.hid (bx_row w9 (.slice (some ⟨gS, 0, none⟩) n3 n3) 29)
            have kk : Below w9.heap.size w9 (w9.alloc (.cells #[.slice (some ⟨gS, 0, none⟩) n3 n3] 29)) := bx_below w9 _
            have lo_xbS := Lib.hid (Nat.le_refl w9.heap.size); have hi_xbS := Lib.hid (Nat.lt_succ_self w9.heap.size)
            replace u := Lib.hid (u.out.trans (kk.mono u.out.size))
            replace sz := Lib.hid (Nat.le_trans sz.out kk.size)
            replace xB2 := Lib.hid (rowIs_below xB2.out kk xB2.out.lt)
            replace xB3 := Lib.hid (rowIs_below xB3.out kk xB3.out.lt)
            replace yM := Lib.hid (yM.out.below kk)
            replace xgMB := Lib.hid (rowIs_below xgMB.out kk xgMB.out.lt)
            replace xP := Lib.hid (rowIs_below xP.out kk xP.out.lt)
            replace xQ := Lib.hid (rowIs_below xQ.out kk xQ.out.lt)
            replace xR := Lib.hid (rowIs_below xR.out kk xR.out.lt)
            replace xbR := Lib.hid (rowIs_below xbR.out kk xbR.out.lt)
            replace xS := Lib.hid (rowIs_below xS.out kk xS.out.lt)
            clear kk
            clear sz
            have sz := Lib.hid (show w9.heap.size + 1 ≤ (w9.alloc (.cells #[.slice (some ⟨gS, 0, none⟩) n3 n3] 29)).heap.size by simp)
            have hcX2 := xbR.out.cell (i := 0) (by omega)
            have hcX3 := xbS.out.cell (i := 0) (by omega)
            go_wp2_with fail
            refine (implMergePools_any _ n0 _ l0 _ n1 _ l1 _ n2 _ l2 _ n3 _ l3 _ (row_blks' le0.out xP.out) (row_ints le1.out xQ.out) (row_votesB le2.out xR.out) (row_votesB le3.out xS.out) hm0 hm1 hm2 hm3 (Nat.le_refl _) (fun e => by cases e) (fun e => by cases e)).mono ?_
            rintro e w10 ⟨AP, nP, cP, rfl, oP, b10⟩
            have hnP : nP ≤ 100 := by rw [← oP.len]; exact hlen.out
            have lo_yP := Lib.hid (fun ad (e : AP = some ad) => Nat.le_trans sz.out (oP.low ad e).1)
            have hi_yP := Lib.hid (fun ad (e : AP = some ad) => (oP.low ad e).2)
            have mo_yP := Lib.hid (Nat.le_trans sz.out b10.size)
            have yP := Lib.hid oP; clear oP
            clear hcX2 hcX3
            replace u := Lib.hid (u.out.trans (b10.mono u.out.size))
            replace sz := Lib.hid (Nat.le_trans sz.out b10.size)
            replace xB2 := Lib.hid (rowIs_below xB2.out b10 xB2.out.lt)
            replace xB3 := Lib.hid (rowIs_below xB3.out b10 xB3.out.lt)
            replace yM := Lib.hid (yM.out.below b10)
            replace xgMB := Lib.hid (rowIs_below xgMB.out b10 xgMB.out.lt)
            replace xP := Lib.hid (rowIs_below xP.out b10 xP.out.lt)
            replace xQ := Lib.hid (rowIs_below xQ.out b10 xQ.out.lt)
            replace xR := Lib.hid (rowIs_below xR.out b10 xR.out.lt)
            replace xbR := Lib.hid (rowIs_below xbR.out b10 xbR.out.lt)
            replace xS := Lib.hid (rowIs_below xS.out b10 xS.out.lt)
            replace xbS := Lib.hid (rowIs_below xbS.out b10 xbS.out.lt)
            clear b10
            clear sz
            have sz := Lib.hid (Nat.le_refl w10.heap.size)
            have xgPB := Lib.hid (bx_row w10 (.slice AP nP cP) 29)
            have kk : Below w10.heap.size w10 (w10.alloc (.cells #[.slice AP nP cP] 29)) := bx_below w10 _
            have lo_xgPB := Lib.hid (Nat.le_refl w10.heap.size); have hi_xgPB := Lib.hid (Nat.lt_succ_self w10.heap.size)
            replace u := Lib.hid (u.out.trans (kk.mono u.out.size))
            replace sz := Lib.hid (Nat.le_trans sz.out kk.size)
            replace xB2 := Lib.hid (rowIs_below xB2.out kk xB2.out.lt)
            replace xB3 := Lib.hid (rowIs_below xB3.out kk xB3.out.lt)
            replace yM := Lib.hid (yM.out.below kk)
            replace xgMB := Lib.hid (rowIs_below xgMB.out kk xgMB.out.lt)
            replace xP := Lib.hid (rowIs_below xP.out kk xP.out.lt)
            replace xQ := Lib.hid (rowIs_below xQ.out kk xQ.out.lt)
            replace xR := Lib.hid (rowIs_below xR.out kk xR.out.lt)
            replace xbR := Lib.hid (rowIs_below xbR.out kk xbR.out.lt)
            replace xS := Lib.hid (rowIs_below xS.out kk xS.out.lt)
            replace xbS := Lib.hid (rowIs_below xbS.out kk xbS.out.lt)
            replace yP := Lib.hid (yP.out.below kk)
            clear kk
            clear sz
            have sz := Lib.hid (show w10.heap.size + 1 ≤ (w10.alloc (.cells #[.slice AP nP cP] 29)).heap.size by simp)
            have hrgPB := xgPB.out.cell (i := 0) (by omega)
            have hrgMB := xgMB.out.cell (i := 0) (by omega)
            go_wp2_with fail
            refine (eqPool_b AP AM nP nM cP cM _ _ yP.out.votes yM.out.votes (by omega) (by omega)).mono ?_
            rintro e w11 ⟨rfl, b11⟩
            clear hrgPB hrgMB
            replace u := Lib.hid (u.out.trans (b11.mono u.out.size))
            replace sz := Lib.hid (Nat.le_trans sz.out b11.size)
            replace xB2 := Lib.hid (rowIs_below xB2.out b11 xB2.out.lt)
            replace xB3 := Lib.hid (rowIs_below xB3.out b11 xB3.out.lt)
            replace yM := Lib.hid (yM.out.below b11)
            replace xgMB := Lib.hid (rowIs_below xgMB.out b11 xgMB.out.lt)
            replace xP := Lib.hid (rowIs_below xP.out b11 xP.out.lt)
            replace xQ := Lib.hid (rowIs_below xQ.out b11 xQ.out.lt)
            replace xR := Lib.hid (rowIs_below xR.out b11 xR.out.lt)
            replace xbR := Lib.hid (rowIs_below xbR.out b11 xbR.out.lt)
            replace xS := Lib.hid (rowIs_below xS.out b11 xS.out.lt)
            replace xbS := Lib.hid (rowIs_below xbS.out b11 xbS.out.lt)
            replace yP := Lib.hid (yP.out.below b11)
            replace xgPB := Lib.hid (rowIs_below xgPB.out b11 xgPB.out.lt)
            clear b11
            go_wp2_with fail
            refine (toBlk_g A0 n0 c0 l0 _ (ha0.out.up u.out) hm0).mono ?_
            rintro e w12 ⟨gZ, rfl, rZ, b12, _, _⟩
            have xZ := Lib.hid rZ; clear rZ
            replace u := Lib.hid (u.out.trans (b12.mono u.out.size))
            replace sz := Lib.hid (Nat.le_trans sz.out b12.size)
            replace xB2 := Lib.hid (rowIs_below xB2.out b12 xB2.out.lt)
            replace xB3 := Lib.hid (rowIs_below xB3.out b12 xB3.out.lt)
            replace yM := Lib.hid (yM.out.below b12)
            replace xgMB := Lib.hid (rowIs_below xgMB.out b12 xgMB.out.lt)
            replace xP := Lib.hid (rowIs_below xP.out b12 xP.out.lt)
            replace xQ := Lib.hid (rowIs_below xQ.out b12 xQ.out.lt)
            replace xR := Lib.hid (rowIs_below xR.out b12 xR.out.lt)
            replace xbR := Lib.hid (rowIs_below xbR.out b12 xbR.out.lt)
            replace xS := Lib.hid (rowIs_below xS.out b12 xS.out.lt)
            replace xbS := Lib.hid (rowIs_below xbS.out b12 xbS.out.lt)
            replace yP := Lib.hid (yP.out.below b12)
            replace xgPB := Lib.hid (rowIs_below xgPB.out b12 xgPB.out.lt)
            clear b12
            go_wp2_with fail
            refine (eqBlk_b _ _ n0 n0 _ _ l0 _ (row_blks' le0.out xP.out) (row_blks' le0.out xZ.out) hm0 hm0).mono ?_
            rintro e w13 ⟨rfl, b13⟩
            replace u := Lib.hid (u.out.trans (b13.mono u.out.size))
            replace sz := Lib.hid (Nat.le_trans sz.out b13.size)
            replace xB2 := Lib.hid (rowIs_below xB2.out b13 xB2.out.lt)
            replace xB3 := Lib.hid (rowIs_below xB3.out b13 xB3.out.lt)
            replace yM := Lib.hid (yM.out.below b13)
            replace xgMB := Lib.hid (rowIs_below xgMB.out b13 xgMB.out.lt)
            replace xP := Lib.hid (rowIs_below xP.out b13 xP.out.lt)
            replace xQ := Lib.hid (rowIs_below xQ.out b13 xQ.out.lt)
            replace xR := Lib.hid (rowIs_below xR.out b13 xR.out.lt)
            replace xbR := Lib.hid (rowIs_below xbR.out b13 xbR.out.lt)
            replace xS := Lib.hid (rowIs_below xS.out b13 xS.out.lt)
            replace xbS := Lib.hid (rowIs_below xbS.out b13 xbS.out.lt)
            replace yP := Lib.hid (yP.out.below b13)
            replace xgPB := Lib.hid (rowIs_below xgPB.out b13 xgPB.out.lt)
            replace xZ := Lib.hid (rowIs_below xZ.out b13 xZ.out.lt)
            clear b13
            clear xZ
            go_wp2_with fail
            refine (toInt_g A1 n1 c1 l1 _ (ha1.out.up' u.out) hm1).mono ?_
            rintro e w14 ⟨gZ, rfl, rZ, b14, _, _⟩
            have xZ := Lib.hid rZ; clear rZ
            replace u := Lib.hid (u.out.trans (b14.mono u.out.size))
            replace sz := Lib.hid (Nat.le_trans sz.out b14.size)
            replace xB2 := Lib.hid (rowIs_below xB2.out b14 xB2.out.lt)
            replace xB3 := Lib.hid (rowIs_below xB3.out b14 xB3.out.lt)
            replace yM := Lib.hid (yM.out.below b14)
            replace xgMB := Lib.hid (rowIs_below xgMB.out b14 xgMB.out.lt)
            replace xP := Lib.hid (rowIs_below xP.out b14 xP.out.lt)
            replace xQ := Lib.hid (rowIs_below xQ.out b14 xQ.out.lt)
            replace xR := Lib.hid (rowIs_below xR.out b14 xR.out.lt)
            replace xbR := Lib.hid (rowIs_below xbR.out b14 xbR.out.lt)
            replace xS := Lib.hid (rowIs_below xS.out b14 xS.out.lt)
            replace xbS := Lib.hid (rowIs_below xbS.out b14 xbS.out.lt)
            replace yP := Lib.hid (yP.out.below b14)
            replace xgPB := Lib.hid (rowIs_below xgPB.out b14 xgPB.out.lt)
            clear b14
            go_wp2_with fail
            refine (eqInt_b _ _ n1 n1 _ _ l1 _ (row_ints le1.out xQ.out) (row_ints le1.out xZ.out) hm1 hm1).mono ?_
            rintro e w15 ⟨rfl, b15⟩
            replace u := Lib.hid (u.out.trans (b15.mono u.out.size))
            replace sz := Lib.hid (Nat.le_trans sz.out b15.size)
            replace xB2 := Lib.hid (rowIs_below xB2.out b15 xB2.out.lt)
            replace xB3 := Lib.hid (rowIs_below xB3.out b15 xB3.out.lt)
            replace yM := Lib.hid (yM.out.below b15)
            replace xgMB := Lib.hid (rowIs_below xgMB.out b15 xgMB.out.lt)
            replace xP := Lib.hid (rowIs_below xP.out b15 xP.out.lt)
            replace xQ := Lib.hid (rowIs_below xQ.out b15 xQ.out.lt)
            replace xR := Lib.hid (rowIs_below xR.out b15 xR.out.lt)
            replace xbR := Lib.hid (rowIs_below xbR.out b15 xbR.out.lt)
            replace xS := Lib.hid (rowIs_below xS.out b15 xS.out.lt)
            replace xbS := Lib.hid (rowIs_below xbS.out b15 xbS.out.lt)
            replace yP := Lib.hid (yP.out.below b15)
            replace xgPB := Lib.hid (rowIs_below xgPB.out b15 xgPB.out.lt)
            replace xZ := Lib.hid (rowIs_below xZ.out b15 xZ.out.lt)
            clear b15
            clear xZ
            have hcB2 := xB2.out.cell (i := 0) (by omega)
            have hcX2 := xbR.out.cell (i := 0) (by omega)
            have hT2 := Lib.hid (toPool_g A2 n2 c2 l2 w15.drew (show VotesAt w15.drew w15.drew.heap.size A2 n2 l2 from ⟨(ha2.out.up u.out).1, (ha2.out.up u.out).2⟩) hm2)
            go_upto_region 25 with fail
            go_cut [92] from 88 to 92 (fun s wx => s = .bool false ∧ Hid (Below w15.heap.size w15 wx))
            case first =>
              go_region_with (first
                | (go_at_call 32
                   refine hT2.out.mono ?_
                   rintro e wa ⟨ga, rfl, ra, ba, _, _⟩
                   have xa := Lib.hid ra
                   have ua := Lib.hid (show Below w15.heap.size w15 wa from ⟨ba.os, ba.tape, ba.output, ba.size, ba.block⟩)
                   have hd1 := rowIs_below xB2.out ua.out xB2.out.lt |>.cell (i := 0) (by omega)
                   have hd2 := rowIs_below xbR.out ua.out xbR.out.lt |>.cell (i := 0) (by omega)
                   have xRa := Lib.hid (rowIs_below xR.out ua.out xR.out.lt)
                   clear ra ba)
                | (go_at_call 21
                   refine (eqPool_b _ _ n2 n2 n2 n2 l2 _ (row_votesB le2.out xRa.out) (row_votesB le2.out xa.out) hm2 hm2).mono ?_
                   rintro e wb ⟨rfl, bb⟩
                   have ub := Lib.hid (ua.out.trans (bb.mono ua.out.size))
                   clear bb))
              all_goals
                go_wp2_with fail
                go_meet
                case rel => exact ⟨rfl, ub⟩
            case rest =>
              obtain ⟨rfl, k6⟩ := hcut
              have k7 := k6.out
              clear k6 hcB2 hcX2 hT2
              replace u := Lib.hid (u.out.trans (k7.mono u.out.size))
              replace sz := Lib.hid (Nat.le_trans sz.out k7.size)
              replace xB2 := Lib.hid (rowIs_below xB2.out k7 xB2.out.lt)
              replace xB3 := Lib.hid (rowIs_below xB3.out k7 xB3.out.lt)
              replace yM := Lib.hid (yM.out.below k7)
              replace xgMB := Lib.hid (rowIs_below xgMB.out k7 xgMB.out.lt)
              replace xP := Lib.hid (rowIs_below xP.out k7 xP.out.lt)
              replace xQ := Lib.hid (rowIs_below xQ.out k7 xQ.out.lt)
              replace xR := Lib.hid (rowIs_below xR.out k7 xR.out.lt)
              replace xbR := Lib.hid (rowIs_below xbR.out k7 xbR.out.lt)
              replace xS := Lib.hid (rowIs_below xS.out k7 xS.out.lt)
              replace xbS := Lib.hid (rowIs_below xbS.out k7 xbS.out.lt)
              replace yP := Lib.hid (yP.out.below k7)
              replace xgPB := Lib.hid (rowIs_below xgPB.out k7 xgPB.out.lt)
              clear k7
              have hcB3 := xB3.out.cell (i := 0) (by omega)
              have hcX3 := xbS.out.cell (i := 0) (by omega)
              have hT2 := Lib.hid (toPool_g A3 n3 c3 l3 wc.drew (show VotesAt wc.drew wc.drew.heap.size A3 n3 l3 from ⟨(ha3.out.up u.out).1, (ha3.out.up u.out).2⟩) hm3)
              go_upto_region 27 with fail
              go_cut [97] from 93 to 97 (fun s wx => s = .bool false ∧ Hid (Below wc.heap.size wc wx))
              case first =>
                go_region_with (first
                  | (go_at_call 32
                     refine hT2.out.mono ?_
                     rintro e wa ⟨ga, rfl, ra, ba, _, _⟩
                     have xa := Lib.hid ra
                     have ua := Lib.hid (show Below wc.heap.size wc wa from ⟨ba.os, ba.tape, ba.output, ba.size, ba.block⟩)
                     have hd1 := rowIs_below xB3.out ua.out xB3.out.lt |>.cell (i := 0) (by omega)
                     have hd2 := rowIs_below xbS.out ua.out xbS.out.lt |>.cell (i := 0) (by omega)
                     have xRa := Lib.hid (rowIs_below xS.out ua.out xS.out.lt)
                     clear ra ba)
                  | (go_at_call 21
                     refine (eqPool_b _ _ n3 n3 n3 n3 l3 _ (row_votesB le3.out xRa.out) (row_votesB le3.out xa.out) hm3 hm3).mono ?_
                     rintro e wb ⟨rfl, bb⟩
                     have ub := Lib.hid (ua.out.trans (bb.mono ua.out.size))
                     clear bb))
                all_goals
                  go_wp2_with fail
                  go_meet
                  case rel => exact ⟨rfl, ub⟩
              case rest =>
                obtain ⟨rfl, k6⟩ := hcut
                have k7 := k6.out
                clear k6 hcB3 hcX3 hT2
                replace u := Lib.hid (u.out.trans (k7.mono u.out.size))
                replace sz := Lib.hid (Nat.le_trans sz.out k7.size)
                replace xB2 := Lib.hid (rowIs_below xB2.out k7 xB2.out.lt)
                replace xB3 := Lib.hid (rowIs_below xB3.out k7 xB3.out.lt)
                replace yM := Lib.hid (yM.out.below k7)
                replace xgMB := Lib.hid (rowIs_below xgMB.out k7 xgMB.out.lt)
                replace xP := Lib.hid (rowIs_below xP.out k7 xP.out.lt)
                replace xQ := Lib.hid (rowIs_below xQ.out k7 xQ.out.lt)
                replace xR := Lib.hid (rowIs_below xR.out k7 xR.out.lt)
                replace xbR := Lib.hid (rowIs_below xbR.out k7 xbR.out.lt)
                replace xS := Lib.hid (rowIs_below xS.out k7 xS.out.lt)
                replace xbS := Lib.hid (rowIs_below xbS.out k7 xbS.out.lt)
                replace yP := Lib.hid (yP.out.below k7)
                replace xgPB := Lib.hid (rowIs_below xgPB.out k7 xgPB.out.lt)
                clear k7
                go_wp2_with fail
                refine (markBlk_b gP n0 _ _ (1) _ xP.out hm0 (by omega) (by omega)).mono ?_
                rintro e w16 ⟨rfl, oo⟩
                have ok_ := oo.o
                clear oo
                replace u := Lib.hid (u.out.trans (ok_.below u.out.size (fun ad e => by cases e; have := lo_xP.out; have := hi_xP.out; have := lo_xB2.out; have := hi_xB2.out; have := lo_xB3.out; have := hi_xB3.out; have := mo_yM.out; show w.heap.size ≤ gP; omega)))
                replace sz := Lib.hid (Nat.le_trans sz.out ok_.size)
                replace xB2 := Lib.hid (rowIs_o xB2.out ok_ (fun ad e => by cases e; have := lo_xP.out; have := hi_xP.out; have := lo_xB2.out; have := hi_xB2.out; have := lo_xB3.out; have := hi_xB3.out; have := mo_yM.out; show w.heap.size ≠ gP; omega))
                replace xB3 := Lib.hid (rowIs_o xB3.out ok_ (fun ad e => by cases e; have := lo_xP.out; have := hi_xP.out; have := lo_xB3.out; have := hi_xB3.out; have := mo_yM.out; show (w.heap.size + 1) ≠ gP; omega))
                replace yM := Lib.hid (OwnV.o yM.out ok_ (fun ad ad' e e' => by cases e'; have := lo_xP.out; have := hi_xP.out; have := lo_yM.out ad e; have := hi_yM.out ad e; show ad.block ≠ gP; omega))
                replace xgMB := Lib.hid (rowIs_o xgMB.out ok_ (fun ad e => by cases e; have := lo_xP.out; have := hi_xP.out; have := lo_xgMB.out; have := hi_xgMB.out; show gMB ≠ gP; omega))
                replace xQ := Lib.hid (rowIs_o xQ.out ok_ (fun ad e => by cases e; have := lo_xP.out; have := hi_xP.out; have := lo_xQ.out; have := hi_xQ.out; show gQ ≠ gP; omega))
                replace xR := Lib.hid (rowIs_o xR.out ok_ (fun ad e => by cases e; have := lo_xP.out; have := hi_xP.out; have := lo_xR.out; have := hi_xR.out; have := lo_xQ.out; have := hi_xQ.out; show gR ≠ gP; omega))
                replace xbR := Lib.hid (rowIs_o xbR.out ok_ (fun ad e => by cases e; have := lo_xP.out; have := hi_xP.out; have := lo_xbR.out; have := hi_xbR.out; have := lo_xQ.out; have := hi_xQ.out; have := lo_xR.out; have := hi_xR.out; show w8.heap.size ≠ gP; omega))
                replace xS := Lib.hid (rowIs_o xS.out ok_ (fun ad e => by cases e; have := lo_xP.out; have := hi_xP.out; have := lo_xS.out; have := hi_xS.out; have := lo_xQ.out; have := hi_xQ.out; have := lo_xR.out; have := hi_xR.out; have := lo_xbR.out; have := hi_xbR.out; show gS ≠ gP; omega))
                replace xbS := Lib.hid (rowIs_o xbS.out ok_ (fun ad e => by cases e; have := lo_xP.out; have := hi_xP.out; have := lo_xbS.out; have := hi_xbS.out; have := lo_xQ.out; have := hi_xQ.out; have := lo_xR.out; have := hi_xR.out; have := lo_xbR.out; have := hi_xbR.out; have := lo_xS.out; have := hi_xS.out; show w9.heap.size ≠ gP; omega))
                replace yP := Lib.hid (OwnV.o yP.out ok_ (fun ad ad' e e' => by cases e'; have := lo_xP.out; have := hi_xP.out; have := lo_yP.out ad e; have := hi_yP.out ad e; have := lo_xQ.out; have := hi_xQ.out; have := lo_xR.out; have := hi_xR.out; have := lo_xbR.out; have := hi_xbR.out; have := lo_xS.out; have := hi_xS.out; have := lo_xbS.out; have := hi_xbS.out; show ad.block ≠ gP; omega))
                replace xgPB := Lib.hid (rowIs_o xgPB.out ok_ (fun ad e => by cases e; have := lo_xP.out; have := hi_xP.out; have := lo_xgPB.out; have := hi_xgPB.out; have := lo_xQ.out; have := hi_xQ.out; have := lo_xR.out; have := hi_xR.out; have := lo_xbR.out; have := hi_xbR.out; have := lo_xS.out; have := hi_xS.out; have := lo_xbS.out; have := hi_xbS.out; have := mo_yP.out; show w10.heap.size ≠ gP; omega))
                clear ok_ xP
                go_wp2_with fail
                refine (markInt_b gQ n1 _ l1 (1 + (n0 : Int) * 2) _ le1.out xQ.out hm1 (by omega) (by omega)).mono ?_
                rintro e w17 ⟨rfl, oo⟩
                have ok_ := oo.o
                clear oo
                replace u := Lib.hid (u.out.trans (ok_.below u.out.size (fun ad e => by cases e; have := lo_xQ.out; have := hi_xQ.out; have := lo_xB2.out; have := hi_xB2.out; have := lo_xB3.out; have := hi_xB3.out; have := mo_yM.out; have := lo_xP.out; have := hi_xP.out; show w.heap.size ≤ gQ; omega)))
                replace sz := Lib.hid (Nat.le_trans sz.out ok_.size)
                replace xB2 := Lib.hid (rowIs_o xB2.out ok_ (fun ad e => by cases e; have := lo_xQ.out; have := hi_xQ.out; have := lo_xB2.out; have := hi_xB2.out; have := lo_xB3.out; have := hi_xB3.out; have := mo_yM.out; have := lo_xP.out; have := hi_xP.out; show w.heap.size ≠ gQ; omega))
                replace xB3 := Lib.hid (rowIs_o xB3.out ok_ (fun ad e => by cases e; have := lo_xQ.out; have := hi_xQ.out; have := lo_xB3.out; have := hi_xB3.out; have := mo_yM.out; have := lo_xP.out; have := hi_xP.out; show (w.heap.size + 1) ≠ gQ; omega))
                replace yM := Lib.hid (OwnV.o yM.out ok_ (fun ad ad' e e' => by cases e'; have := lo_xQ.out; have := hi_xQ.out; have := lo_yM.out ad e; have := hi_yM.out ad e; have := lo_xP.out; have := hi_xP.out; show ad.block ≠ gQ; omega))
                replace xgMB := Lib.hid (rowIs_o xgMB.out ok_ (fun ad e => by cases e; have := lo_xQ.out; have := hi_xQ.out; have := lo_xgMB.out; have := hi_xgMB.out; have := lo_xP.out; have := hi_xP.out; show gMB ≠ gQ; omega))
                replace xR := Lib.hid (rowIs_o xR.out ok_ (fun ad e => by cases e; have := lo_xQ.out; have := hi_xQ.out; have := lo_xR.out; have := hi_xR.out; show gR ≠ gQ; omega))
                replace xbR := Lib.hid (rowIs_o xbR.out ok_ (fun ad e => by cases e; have := lo_xQ.out; have := hi_xQ.out; have := lo_xbR.out; have := hi_xbR.out; have := lo_xR.out; have := hi_xR.out; show w8.heap.size ≠ gQ; omega))
                replace xS := Lib.hid (rowIs_o xS.out ok_ (fun ad e => by cases e; have := lo_xQ.out; have := hi_xQ.out; have := lo_xS.out; have := hi_xS.out; have := lo_xR.out; have := hi_xR.out; have := lo_xbR.out; have := hi_xbR.out; show gS ≠ gQ; omega))
                replace xbS := Lib.hid (rowIs_o xbS.out ok_ (fun ad e => by cases e; have := lo_xQ.out; have := hi_xQ.out; have := lo_xbS.out; have := hi_xbS.out; have := lo_xR.out; have := hi_xR.out; have := lo_xbR.out; have := hi_xbR.out; have := lo_xS.out; have := hi_xS.out; show w9.heap.size ≠ gQ; omega))
                replace yP := Lib.hid (OwnV.o yP.out ok_ (fun ad ad' e e' => by cases e'; have := lo_xQ.out; have := hi_xQ.out; have := lo_yP.out ad e; have := hi_yP.out ad e; have := lo_xR.out; have := hi_xR.out; have := lo_xbR.out; have := hi_xbR.out; have := lo_xS.out; have := hi_xS.out; have := lo_xbS.out; have := hi_xbS.out; show ad.block ≠ gQ; omega))
                replace xgPB := Lib.hid (rowIs_o xgPB.out ok_ (fun ad e => by cases e; have := lo_xQ.out; have := hi_xQ.out; have := lo_xgPB.out; have := hi_xgPB.out; have := lo_xR.out; have := hi_xR.out; have := lo_xbR.out; have := hi_xbR.out; have := lo_xS.out; have := hi_xS.out; have := lo_xbS.out; have := hi_xbS.out; have := mo_yP.out; show w10.heap.size ≠ gQ; omega))
                clear ok_ xQ
                have hcX2 := xbR.out.cell (i := 0) (by omega)
                go_wp2_with fail
                refine (markPool_b gR n2 _ l2 (1 + (n0 : Int) * 2 + (n1 : Int)) _ le2.out xR.out hm2 (by omega) (by omega)).mono ?_
                rintro e w18 ⟨rfl, oo⟩
                have ok_ := oo.o
                clear oo
                clear hcX2
                replace u := Lib.hid (u.out.trans (ok_.below u.out.size (fun ad e => by cases e; have := lo_xR.out; have := hi_xR.out; have := lo_xB2.out; have := hi_xB2.out; have := lo_xB3.out; have := hi_xB3.out; have := mo_yM.out; have := lo_xP.out; have := hi_xP.out; have := lo_xQ.out; have := hi_xQ.out; show w.heap.size ≤ gR; omega)))
                replace sz := Lib.hid (Nat.le_trans sz.out ok_.size)
                replace xB2 := Lib.hid (rowIs_o xB2.out ok_ (fun ad e => by cases e; have := lo_xR.out; have := hi_xR.out; have := lo_xB2.out; have := hi_xB2.out; have := lo_xB3.out; have := hi_xB3.out; have := mo_yM.out; have := lo_xP.out; have := hi_xP.out; have := lo_xQ.out; have := hi_xQ.out; show w.heap.size ≠ gR; omega))
                replace xB3 := Lib.hid (rowIs_o xB3.out ok_ (fun ad e => by cases e; have := lo_xR.out; have := hi_xR.out; have := lo_xB3.out; have := hi_xB3.out; have := mo_yM.out; have := lo_xP.out; have := hi_xP.out; have := lo_xQ.out; have := hi_xQ.out; show (w.heap.size + 1) ≠ gR; omega))
                replace yM := Lib.hid (OwnV.o yM.out ok_ (fun ad ad' e e' => by cases e'; have := lo_xR.out; have := hi_xR.out; have := lo_yM.out ad e; have := hi_yM.out ad e; have := lo_xP.out; have := hi_xP.out; have := lo_xQ.out; have := hi_xQ.out; show ad.block ≠ gR; omega))
                replace xgMB := Lib.hid (rowIs_o xgMB.out ok_ (fun ad e => by cases e; have := lo_xR.out; have := hi_xR.out; have := lo_xgMB.out; have := hi_xgMB.out; have := lo_xP.out; have := hi_xP.out; have := lo_xQ.out; have := hi_xQ.out; show gMB ≠ gR; omega))
                replace xbR := Lib.hid (rowIs_o xbR.out ok_ (fun ad e => by cases e; have := lo_xR.out; have := hi_xR.out; have := lo_xbR.out; have := hi_xbR.out; show w8.heap.size ≠ gR; omega))
                replace xS := Lib.hid (rowIs_o xS.out ok_ (fun ad e => by cases e; have := lo_xR.out; have := hi_xR.out; have := lo_xS.out; have := hi_xS.out; have := lo_xbR.out; have := hi_xbR.out; show gS ≠ gR; omega))
                replace xbS := Lib.hid (rowIs_o xbS.out ok_ (fun ad e => by cases e; have := lo_xR.out; have := hi_xR.out; have := lo_xbS.out; have := hi_xbS.out; have := lo_xbR.out; have := hi_xbR.out; have := lo_xS.out; have := hi_xS.out; show w9.heap.size ≠ gR; omega))
                replace yP := Lib.hid (OwnV.o yP.out ok_ (fun ad ad' e e' => by cases e'; have := lo_xR.out; have := hi_xR.out; have := lo_yP.out ad e; have := hi_yP.out ad e; have := lo_xbR.out; have := hi_xbR.out; have := lo_xS.out; have := hi_xS.out; have := lo_xbS.out; have := hi_xbS.out; show ad.block ≠ gR; omega))
                replace xgPB := Lib.hid (rowIs_o xgPB.out ok_ (fun ad e => by cases e; have := lo_xR.out; have := hi_xR.out; have := lo_xgPB.out; have := hi_xgPB.out; have := lo_xbR.out; have := hi_xbR.out; have := lo_xS.out; have := hi_xS.out; have := lo_xbS.out; have := hi_xbS.out; have := mo_yP.out; show w10.heap.size ≠ gR; omega))
                clear ok_ xR
                clear xbR
                have hcX3 := xbS.out.cell (i := 0) (by omega)
                go_wp2_with fail
                refine (markPool_b gS n3 _ l3 (1 + (n0 : Int) * 2 + (n1 : Int) + (n2 : Int) * 3) _ le3.out xS.out hm3 (by omega) (by omega)).mono ?_
                rintro e w19 ⟨rfl, oo⟩
                have ok_ := oo.o
                clear oo
                clear hcX3
                replace u := Lib.hid (u.out.trans (ok_.below u.out.size (fun ad e => by cases e; have := lo_xS.out; have := hi_xS.out; have := lo_xB2.out; have := hi_xB2.out; have := lo_xB3.out; have := hi_xB3.out; have := mo_yM.out; have := lo_xP.out; have := hi_xP.out; have := lo_xQ.out; have := hi_xQ.out; have := lo_xR.out; have := hi_xR.out; have := lo_xbR.out; have := hi_xbR.out; show w.heap.size ≤ gS; omega)))
                replace sz := Lib.hid (Nat.le_trans sz.out ok_.size)
                replace xB2 := Lib.hid (rowIs_o xB2.out ok_ (fun ad e => by cases e; have := lo_xS.out; have := hi_xS.out; have := lo_xB2.out; have := hi_xB2.out; have := lo_xB3.out; have := hi_xB3.out; have := mo_yM.out; have := lo_xP.out; have := hi_xP.out; have := lo_xQ.out; have := hi_xQ.out; have := lo_xR.out; have := hi_xR.out; have := lo_xbR.out; have := hi_xbR.out; show w.heap.size ≠ gS; omega))
                replace xB3 := Lib.hid (rowIs_o xB3.out ok_ (fun ad e => by cases e; have := lo_xS.out; have := hi_xS.out; have := lo_xB3.out; have := hi_xB3.out; have := mo_yM.out; have := lo_xP.out; have := hi_xP.out; have := lo_xQ.out; have := hi_xQ.out; have := lo_xR.out; have := hi_xR.out; have := lo_xbR.out; have := hi_xbR.out; show (w.heap.size + 1) ≠ gS; omega))
                replace yM := Lib.hid (OwnV.o yM.out ok_ (fun ad ad' e e' => by cases e'; have := lo_xS.out; have := hi_xS.out; have := lo_yM.out ad e; have := hi_yM.out ad e; have := lo_xP.out; have := hi_xP.out; have := lo_xQ.out; have := hi_xQ.out; have := lo_xR.out; have := hi_xR.out; have := lo_xbR.out; have := hi_xbR.out; show ad.block ≠ gS; omega))
                replace xgMB := Lib.hid (rowIs_o xgMB.out ok_ (fun ad e => by cases e; have := lo_xS.out; have := hi_xS.out; have := lo_xgMB.out; have := hi_xgMB.out; have := lo_xP.out; have := hi_xP.out; have := lo_xQ.out; have := hi_xQ.out; have := lo_xR.out; have := hi_xR.out; have := lo_xbR.out; have := hi_xbR.out; show gMB ≠ gS; omega))
                replace xbS := Lib.hid (rowIs_o xbS.out ok_ (fun ad e => by cases e; have := lo_xS.out; have := hi_xS.out; have := lo_xbS.out; have := hi_xbS.out; show w9.heap.size ≠ gS; omega))
                replace yP := Lib.hid (OwnV.o yP.out ok_ (fun ad ad' e e' => by cases e'; have := lo_xS.out; have := hi_xS.out; have := lo_yP.out ad e; have := hi_yP.out ad e; have := lo_xbS.out; have := hi_xbS.out; show ad.block ≠ gS; omega))
                replace xgPB := Lib.hid (rowIs_o xgPB.out ok_ (fun ad e => by cases e; have := lo_xS.out; have := hi_xS.out; have := lo_xgPB.out; have := hi_xgPB.out; have := lo_xbS.out; have := hi_xbS.out; have := mo_yP.out; show w10.heap.size ≠ gS; omega))
                clear ok_ xS
                clear xbS
                have hk0 : ¬ (1 + (n0 : Int) * 2 + (n1 : Int) + (n2 : Int) * 3 + (n3 : Int) * 3 < 0) := by omega
                have hrgPB := xgPB.out.cell (i := 0) (by omega)
                have hrgMB := xgMB.out.cell (i := 0) (by omega)
                go_wp2_with fail
                refine (eqPool_b AP AM nP nM cP cM _ _ yP.out.votes yM.out.votes (by omega) (by omega)).mono ?_
                rintro e w20 ⟨rfl, b20⟩
                clear hrgPB hrgMB
                replace u := Lib.hid (u.out.trans (b20.mono u.out.size))
                replace sz := Lib.hid (Nat.le_trans sz.out b20.size)
                replace xB2 := Lib.hid (rowIs_below xB2.out b20 xB2.out.lt)
                replace xB3 := Lib.hid (rowIs_below xB3.out b20 xB3.out.lt)
                replace yM := Lib.hid (yM.out.below b20)
                replace xgMB := Lib.hid (rowIs_below xgMB.out b20 xgMB.out.lt)
                replace yP := Lib.hid (yP.out.below b20)
                replace xgPB := Lib.hid (rowIs_below xgPB.out b20 xgPB.out.lt)
                clear b20
                clear hk0
                have hrgPB := xgPB.out.cell (i := 0) (by omega)
                go_wp2_with fail
                refine (markPoolR_b AP nP cP _ _ 1 _ yP.out (by omega) (by decide) (by decide)).mono ?_
                rintro e w21 ⟨rfl, oP2, oo⟩
                have ok_ := oo
                clear oo
                clear hrgPB
                replace u := Lib.hid (u.out.trans (ok_.below u.out.size (fun ad e => by have := lo_yP.out ad e; have := hi_yP.out ad e; have := lo_xB2.out; have := hi_xB2.out; have := lo_xB3.out; have := hi_xB3.out; have := mo_yM.out; have := lo_xP.out; have := hi_xP.out; have := lo_xQ.out; have := hi_xQ.out; have := lo_xR.out; have := hi_xR.out; have := lo_xbR.out; have := hi_xbR.out; have := lo_xS.out; have := hi_xS.out; have := lo_xbS.out; have := hi_xbS.out; omega)))
                replace sz := Lib.hid (Nat.le_trans sz.out ok_.size)
                replace xB2 := Lib.hid (rowIs_o xB2.out ok_ (fun ad e => by have := lo_yP.out ad e; have := hi_yP.out ad e; have := lo_xB2.out; have := hi_xB2.out; have := lo_xB3.out; have := hi_xB3.out; have := mo_yM.out; have := lo_xP.out; have := hi_xP.out; have := lo_xQ.out; have := hi_xQ.out; have := lo_xR.out; have := hi_xR.out; have := lo_xbR.out; have := hi_xbR.out; have := lo_xS.out; have := hi_xS.out; have := lo_xbS.out; have := hi_xbS.out; omega))
                replace xB3 := Lib.hid (rowIs_o xB3.out ok_ (fun ad e => by have := lo_yP.out ad e; have := hi_yP.out ad e; have := lo_xB3.out; have := hi_xB3.out; have := mo_yM.out; have := lo_xP.out; have := hi_xP.out; have := lo_xQ.out; have := hi_xQ.out; have := lo_xR.out; have := hi_xR.out; have := lo_xbR.out; have := hi_xbR.out; have := lo_xS.out; have := hi_xS.out; have := lo_xbS.out; have := hi_xbS.out; omega))
                replace yM := Lib.hid (OwnV.o yM.out ok_ (fun ad ad' e e' => by have := lo_yP.out ad' e'; have := hi_yP.out ad' e'; have := lo_yM.out ad e; have := hi_yM.out ad e; have := lo_xP.out; have := hi_xP.out; have := lo_xQ.out; have := hi_xQ.out; have := lo_xR.out; have := hi_xR.out; have := lo_xbR.out; have := hi_xbR.out; have := lo_xS.out; have := hi_xS.out; have := lo_xbS.out; have := hi_xbS.out; omega))
                replace xgMB := Lib.hid (rowIs_o xgMB.out ok_ (fun ad e => by have := lo_yP.out ad e; have := hi_yP.out ad e; have := lo_xgMB.out; have := hi_xgMB.out; have := lo_xP.out; have := hi_xP.out; have := lo_xQ.out; have := hi_xQ.out; have := lo_xR.out; have := hi_xR.out; have := lo_xbR.out; have := hi_xbR.out; have := lo_xS.out; have := hi_xS.out; have := lo_xbS.out; have := hi_xbS.out; omega))
                replace xgPB := Lib.hid (rowIs_o xgPB.out ok_ (fun ad e => by have := lo_yP.out ad e; have := hi_yP.out ad e; have := lo_xgPB.out; have := hi_xgPB.out; omega))
                clear yP ok_
                have yP := Lib.hid oP2; clear oP2
                have hrgPB := xgPB.out.cell (i := 0) (by omega)
                go_wp2_with fail
                refine (heldPool_b AP nP cP 1 _ yP.out.votes (by omega) (by decide) (by decide)).mono ?_
                rintro e w22 ⟨rfl, b22⟩
                clear hrgPB
                replace u := Lib.hid (u.out.trans (b22.mono u.out.size))
                replace sz := Lib.hid (Nat.le_trans sz.out b22.size)
                replace xB2 := Lib.hid (rowIs_below xB2.out b22 xB2.out.lt)
                replace xB3 := Lib.hid (rowIs_below xB3.out b22 xB3.out.lt)
                replace yM := Lib.hid (yM.out.below b22)
                replace xgMB := Lib.hid (rowIs_below xgMB.out b22 xgMB.out.lt)
                replace yP := Lib.hid (yP.out.below b22)
                replace xgPB := Lib.hid (rowIs_below xgPB.out b22 xgPB.out.lt)
                clear b22
                have hlt0 : ¬ (1 + (nP : Int) * 3) < 0 := by omega
                have hne : ((1 + (nP : Int) * 3) != (1 + (nP : Int) * 3)) = false := by simp
                have hcB2 := xB2.out.cell (i := 0) (by omega)
                have hcB3 := xB3.out.cell (i := 0) (by omega)
                go_upto_region 44 with fail
                have hT := Lib.hid (toBlk_g A0 n0 c0 l0 w22.drew (show BlksAt w22.drew w22.drew.heap.size A0 n0 l0 from ⟨(ha0.out.up u.out).1, (ha0.out.up u.out).2⟩) hm0)
                go_cut [21, 22] from 134 to 145 (fun s t wx => ∃ AX nX cX pX, s = .pointer (some ⟨pX, 0, none⟩) ∧ t = .bool (mrgOK l0 l1 l2 l3) ∧ Hid (OwnV wx w22.heap.size AX nX (mrgR l0 l1 l2 l3)) ∧ Hid (wx.rowIs pX 29 1 (fun _ => .slice AX nX cX)) ∧ Hid (w22.heap.size ≤ pX) ∧ Hid (Below w22.heap.size w22 wx))
                case first =>
                  have tk0 : True := trivial
                  have hz_2 := (rowIs_below (show w22.drew.rowIs w.heap.size 46 1 (fun _ => .slice A2 n2 c2) from xB2.out) (bx_below w22.drew (.cells #[.slice none 0 0] 29)) (show w.heap.size < w22.drew.heap.size from xB2.out.lt)).cell (i := 0) (by omega)
                  have hz_3 := (rowIs_below (show w22.drew.rowIs (w.heap.size + 1) 46 1 (fun _ => .slice A3 n3 c3) from xB3.out) (bx_below w22.drew (.cells #[.slice none 0 0] 29)) (show (w.heap.size + 1) < w22.drew.heap.size from xB3.out.lt)).cell (i := 0) (by omega)
                  go_region_held3 (fun w' => w'.cell? ⟨w.heap.size, 0, none⟩ = some (.slice A2 n2 c2) ∧ w'.cell? ⟨(w.heap.size + 1), 0, none⟩ = some (.slice A3 n3 c3)) (first | assumption | (refine ⟨?_, ?_⟩ <;> assumption) | go_keep) (first
                    | (clear tk0
                       go_at_call 17
                       refine hT.out.mono ?_
                       rintro e wy0 ⟨gy0, rfl, ry, by0, _, _⟩
                       have by_ := by0
                       have y0 := Lib.hid ry
                       have ua0 := Lib.hid (show Below w22.heap.size w22 wy0 from ⟨by_.os, by_.tape, by_.output, by_.size, by_.block⟩)
                       have hd0_2 := rowIs_below xB2.out ua0.out xB2.out.lt |>.cell (i := 0) (by omega)
                       have hd0_3 := rowIs_below xB3.out ua0.out xB3.out.lt |>.cell (i := 0) (by omega)
                       have he0_2 := (fun b => rowIs_below (rowIs_below xB2.out ua0.out xB2.out.lt) b (rowIs_below xB2.out ua0.out xB2.out.lt).lt |>.cell (i := 0) (by omega)) (bx_below wy0 (.cells #[.slice none 0 0] 29))
                       have he0_3 := (fun b => rowIs_below (rowIs_below xB3.out ua0.out xB3.out.lt) b (rowIs_below xB3.out ua0.out xB3.out.lt).lt |>.cell (i := 0) (by omega)) (bx_below wy0 (.cells #[.slice none 0 0] 29))
                       clear ry by_ by0
                       have tk1 : True := trivial)
                    | (clear tk0
                       go_at_call 17
                       have kb := bx_below w22.drew (.cells #[.slice none 0 0] 29)
                       refine (toBlk_g A0 n0 c0 l0 _ ((show BlksAt w22.drew w22.drew.heap.size A0 n0 l0 from ⟨(ha0.out.up u.out).1, (ha0.out.up u.out).2⟩).up kb) hm0).mono ?_
                       rintro e wy0 ⟨gy0, rfl, ry, by0, _, _⟩
                       have zb := Lib.hid (show wy0.rowIs w22.heap.size 29 1 (fun _ => .slice none 0 0) from rowIs_below (bx_row w22.drew (.slice none 0 0) 29) by0 (by simp))
                       have lz := Lib.hid (show w22.heap.size ≤ w22.heap.size from Nat.le_refl _)
                       have by_ := kb.trans (by0.mono kb.size)
                       have y0 := Lib.hid ry
                       have ua0 := Lib.hid (show Below w22.heap.size w22 wy0 from ⟨by_.os, by_.tape, by_.output, by_.size, by_.block⟩)
                       have hd0_2 := rowIs_below xB2.out ua0.out xB2.out.lt |>.cell (i := 0) (by omega)
                       have hd0_3 := rowIs_below xB3.out ua0.out xB3.out.lt |>.cell (i := 0) (by omega)
                       clear ry by_ by0 kb
                       have tk1 : True := trivial)
                    | (clear tk1
                       go_at_call 18
                       refine (toInt_g A1 n1 c1 l1 _ (ha1.out.up' (u.out.trans (ua0.out.mono u.out.size))) hm1).mono ?_
                       rintro e wy1 ⟨gy1, rfl, ry, by0, _, _⟩
                       have by_ := by0
                       try replace zb := Lib.hid (rowIs_below zb.out by_ zb.out.lt)
                       have y1 := Lib.hid ry
                       replace y0 := Lib.hid (rowIs_below y0.out by_ y0.out.lt)
                       have ua1 := Lib.hid (ua0.out.trans (by_.mono ua0.out.size))
                       have hd1_2 := rowIs_below xB2.out ua1.out xB2.out.lt |>.cell (i := 0) (by omega)
                       have hd1_3 := rowIs_below xB3.out ua1.out xB3.out.lt |>.cell (i := 0) (by omega)
                       have he1_2 := (fun b => rowIs_below (rowIs_below xB2.out ua1.out xB2.out.lt) b (rowIs_below xB2.out ua1.out xB2.out.lt).lt |>.cell (i := 0) (by omega)) (bx_below wy1 (.cells #[.slice none 0 0] 29))
                       have he1_3 := (fun b => rowIs_below (rowIs_below xB3.out ua1.out xB3.out.lt) b (rowIs_below xB3.out ua1.out xB3.out.lt).lt |>.cell (i := 0) (by omega)) (bx_below wy1 (.cells #[.slice none 0 0] 29))
                       clear ry by_ by0
                       have tk2 : True := trivial)
                    | (clear tk1
                       go_at_call 18
                       have kb := bx_below wy0 (.cells #[.slice none 0 0] 29)
                       refine (toInt_g A1 n1 c1 l1 _ (ha1.out.up' ((u.out.trans (ua0.out.mono u.out.size)).trans (kb.mono (u.out.trans (ua0.out.mono u.out.size)).size))) hm1).mono ?_
                       rintro e wy1 ⟨gy1, rfl, ry, by0, _, _⟩
                       have zb := Lib.hid (show wy1.rowIs wy0.heap.size 29 1 (fun _ => .slice none 0 0) from rowIs_below (bx_row wy0 (.slice none 0 0) 29) by0 (by simp))
                       have lz := Lib.hid (show w22.heap.size ≤ wy0.heap.size from ua0.out.size)
                       have by_ := kb.trans (by0.mono kb.size)
                       have y1 := Lib.hid ry
                       replace y0 := Lib.hid (rowIs_below y0.out by_ y0.out.lt)
                       have ua1 := Lib.hid (ua0.out.trans (by_.mono ua0.out.size))
                       have hd1_2 := rowIs_below xB2.out ua1.out xB2.out.lt |>.cell (i := 0) (by omega)
                       have hd1_3 := rowIs_below xB3.out ua1.out xB3.out.lt |>.cell (i := 0) (by omega)
                       clear ry by_ by0 kb
                       have tk2 : True := trivial)
                    | (clear tk2
                       go_at_call 32
                       refine (toPool_g A2 n2 c2 l2 _ (ha2.out.up (u.out.trans (ua1.out.mono u.out.size))) hm2).mono ?_
                       rintro e wy2 ⟨gy2, rfl, ry, by0, _, _⟩
                       have by_ := by0
                       try replace zb := Lib.hid (rowIs_below zb.out by_ zb.out.lt)
                       have y2 := Lib.hid ry
                       replace y0 := Lib.hid (rowIs_below y0.out by_ y0.out.lt)
                       replace y1 := Lib.hid (rowIs_below y1.out by_ y1.out.lt)
                       have ua2 := Lib.hid (ua1.out.trans (by_.mono ua1.out.size))
                       have hd2_2 := rowIs_below xB2.out ua2.out xB2.out.lt |>.cell (i := 0) (by omega)
                       have hd2_3 := rowIs_below xB3.out ua2.out xB3.out.lt |>.cell (i := 0) (by omega)
                       have he2_2 := (fun b => rowIs_below (rowIs_below xB2.out ua2.out xB2.out.lt) b (rowIs_below xB2.out ua2.out xB2.out.lt).lt |>.cell (i := 0) (by omega)) (bx_below wy2 (.cells #[.slice none 0 0] 29))
                       have he2_3 := (fun b => rowIs_below (rowIs_below xB3.out ua2.out xB3.out.lt) b (rowIs_below xB3.out ua2.out xB3.out.lt).lt |>.cell (i := 0) (by omega)) (bx_below wy2 (.cells #[.slice none 0 0] 29))
                       clear ry by_ by0
                       have tk3 : True := trivial)
                    | (clear tk2
                       go_at_call 32
                       have kb := bx_below wy1 (.cells #[.slice none 0 0] 29)
                       refine (toPool_g A2 n2 c2 l2 _ (ha2.out.up ((u.out.trans (ua1.out.mono u.out.size)).trans (kb.mono (u.out.trans (ua1.out.mono u.out.size)).size))) hm2).mono ?_
                       rintro e wy2 ⟨gy2, rfl, ry, by0, _, _⟩
                       have zb := Lib.hid (show wy2.rowIs wy1.heap.size 29 1 (fun _ => .slice none 0 0) from rowIs_below (bx_row wy1 (.slice none 0 0) 29) by0 (by simp))
                       have lz := Lib.hid (show w22.heap.size ≤ wy1.heap.size from ua1.out.size)
                       have by_ := kb.trans (by0.mono kb.size)
                       have y2 := Lib.hid ry
                       replace y0 := Lib.hid (rowIs_below y0.out by_ y0.out.lt)
                       replace y1 := Lib.hid (rowIs_below y1.out by_ y1.out.lt)
                       have ua2 := Lib.hid (ua1.out.trans (by_.mono ua1.out.size))
                       have hd2_2 := rowIs_below xB2.out ua2.out xB2.out.lt |>.cell (i := 0) (by omega)
                       have hd2_3 := rowIs_below xB3.out ua2.out xB3.out.lt |>.cell (i := 0) (by omega)
                       clear ry by_ by0 kb
                       have tk3 : True := trivial)
                    | (clear tk3
                       go_at_call 32
                       refine (toPool_g A3 n3 c3 l3 _ (ha3.out.up (u.out.trans (ua2.out.mono u.out.size))) hm3).mono ?_
                       rintro e wy3 ⟨gy3, rfl, ry, by0, _, _⟩
                       have by_ := by0
                       try replace zb := Lib.hid (rowIs_below zb.out by_ zb.out.lt)
                       have y3 := Lib.hid ry
                       replace y0 := Lib.hid (rowIs_below y0.out by_ y0.out.lt)
                       replace y1 := Lib.hid (rowIs_below y1.out by_ y1.out.lt)
                       replace y2 := Lib.hid (rowIs_below y2.out by_ y2.out.lt)
                       have ua3 := Lib.hid (ua2.out.trans (by_.mono ua2.out.size))
                       have hd3_2 := rowIs_below xB2.out ua3.out xB2.out.lt |>.cell (i := 0) (by omega)
                       have hd3_3 := rowIs_below xB3.out ua3.out xB3.out.lt |>.cell (i := 0) (by omega)
                       have he3_2 := (fun b => rowIs_below (rowIs_below xB2.out ua3.out xB2.out.lt) b (rowIs_below xB2.out ua3.out xB2.out.lt).lt |>.cell (i := 0) (by omega)) (bx_below wy3 (.cells #[.slice none 0 0] 29))
                       have he3_3 := (fun b => rowIs_below (rowIs_below xB3.out ua3.out xB3.out.lt) b (rowIs_below xB3.out ua3.out xB3.out.lt).lt |>.cell (i := 0) (by omega)) (bx_below wy3 (.cells #[.slice none 0 0] 29))
                       clear ry by_ by0
                       have tk4 : True := trivial)
                    | (clear tk3
                       go_at_call 32
                       have kb := bx_below wy2 (.cells #[.slice none 0 0] 29)
                       refine (toPool_g A3 n3 c3 l3 _ (ha3.out.up ((u.out.trans (ua2.out.mono u.out.size)).trans (kb.mono (u.out.trans (ua2.out.mono u.out.size)).size))) hm3).mono ?_
                       rintro e wy3 ⟨gy3, rfl, ry, by0, _, _⟩
                       have zb := Lib.hid (show wy3.rowIs wy2.heap.size 29 1 (fun _ => .slice none 0 0) from rowIs_below (bx_row wy2 (.slice none 0 0) 29) by0 (by simp))
                       have lz := Lib.hid (show w22.heap.size ≤ wy2.heap.size from ua2.out.size)
                       have by_ := kb.trans (by0.mono kb.size)
                       have y3 := Lib.hid ry
                       replace y0 := Lib.hid (rowIs_below y0.out by_ y0.out.lt)
                       replace y1 := Lib.hid (rowIs_below y1.out by_ y1.out.lt)
                       replace y2 := Lib.hid (rowIs_below y2.out by_ y2.out.lt)
                       have ua3 := Lib.hid (ua2.out.trans (by_.mono ua2.out.size))
                       have hd3_2 := rowIs_below xB2.out ua3.out xB2.out.lt |>.cell (i := 0) (by omega)
                       have hd3_3 := rowIs_below xB3.out ua3.out xB3.out.lt |>.cell (i := 0) (by omega)
                       clear ry by_ by0 kb
                       have tk4 : True := trivial)
                    | (clear tk4
                       go_at_call 36
                       refine (implMergePools_any _ n0 _ l0 _ n1 _ l1 _ n2 _ l2 _ n3 _ l3 _ (row_blks' le0.out y0.out) (row_ints le1.out y1.out) (row_votesB le2.out y2.out) (row_votesB le3.out y3.out) hm0 hm1 hm2 hm3 (Nat.le_refl _) (fun e => by cases e) (fun e => by cases e)).mono ?_
                       rintro e we ⟨AX, nX, cX, rfl, oe, be⟩
                       try have gz := Lib.hid zb.out.lt
                       try replace zb := Lib.hid (rowIs_below zb.out be zb.out.lt)
                       try have hzb := zb.out.cell (i := 0) (by omega)
                       try have hzf := zb.out.frozen 0
                       have hB := Lib.hid ua3.out.size
                       have ye := Lib.hid oe
                       have ue := Lib.hid (ua3.out.trans (be.mono ua3.out.size))
                       have hw_2 := rowIs_below xB2.out ue.out xB2.out.lt |>.cell (i := 0) (by omega)
                       have hv_2 := (fun b => rowIs_below (rowIs_below xB2.out ue.out xB2.out.lt) b (rowIs_below xB2.out ue.out xB2.out.lt).lt |>.cell (i := 0) (by omega)) (bx_below we (.cells #[.slice AX nX cX] 29))
                       have hu_2 := (fun b => rowIs_below (rowIs_below xB2.out ue.out xB2.out.lt) b (rowIs_below xB2.out ue.out xB2.out.lt).lt |>.cell (i := 0) (by omega)) (bx_below we (.cells #[.slice none 0 0] 29))
                       try have hs_2 := keep_set zb.out (rowIs_below xB2.out ue.out xB2.out.lt) (Nat.lt_of_lt_of_le xB2.out.lt lz.out) (Value.slice AX nX cX)
                       have hw_3 := rowIs_below xB3.out ue.out xB3.out.lt |>.cell (i := 0) (by omega)
                       have hv_3 := (fun b => rowIs_below (rowIs_below xB3.out ue.out xB3.out.lt) b (rowIs_below xB3.out ue.out xB3.out.lt).lt |>.cell (i := 0) (by omega)) (bx_below we (.cells #[.slice AX nX cX] 29))
                       have hu_3 := (fun b => rowIs_below (rowIs_below xB3.out ue.out xB3.out.lt) b (rowIs_below xB3.out ue.out xB3.out.lt).lt |>.cell (i := 0) (by omega)) (bx_below we (.cells #[.slice none 0 0] 29))
                       try have hs_3 := keep_set zb.out (rowIs_below xB3.out ue.out xB3.out.lt) (Nat.lt_of_lt_of_le xB3.out.lt lz.out) (Value.slice AX nX cX)
                       clear be oe)
                    | (clear tk4
                       go_at_call 36
                       have kb := bx_below wy3 (.cells #[.slice none 0 0] 29)
                       refine (implMergePools_any _ n0 _ l0 _ n1 _ l1 _ n2 _ l2 _ n3 _ l3 _ (row_blks' le0.out (rowIs_below y0.out kb y0.out.lt)) (row_ints le1.out (rowIs_below y1.out kb y1.out.lt)) (row_votesB le2.out (rowIs_below y2.out kb y2.out.lt)) (row_votesB le3.out (rowIs_below y3.out kb y3.out.lt)) hm0 hm1 hm2 hm3 (Nat.le_refl _) (fun e => by cases e) (fun e => by cases e)).mono ?_
                       rintro e we ⟨AX, nX, cX, rfl, oe, be⟩
                       have zb := Lib.hid (rowIs_below (bx_row wy3 (.slice none 0 0) 29) be (by simp))
                       have lz := Lib.hid (show w22.heap.size ≤ wy3.heap.size from ua3.out.size)
                       have gz := Lib.hid (show wy3.heap.size < (wy3.alloc (.cells #[.slice none 0 0] 29)).heap.size by simp)
                       have hB := Lib.hid (Nat.le_trans ua3.out.size kb.size)
                       have hzb := zb.out.cell (i := 0) (by omega); have hzf := zb.out.frozen 0
                       have ye := Lib.hid oe
                       have ue := Lib.hid (ua3.out.trans ((kb.trans (be.mono kb.size)).mono ua3.out.size))
                       have hw_2 := rowIs_below xB2.out ue.out xB2.out.lt |>.cell (i := 0) (by omega)
                       have hv_2 := (fun b => rowIs_below (rowIs_below xB2.out ue.out xB2.out.lt) b (rowIs_below xB2.out ue.out xB2.out.lt).lt |>.cell (i := 0) (by omega)) (bx_below we (.cells #[.slice AX nX cX] 29))
                       have hu_2 := (fun b => rowIs_below (rowIs_below xB2.out ue.out xB2.out.lt) b (rowIs_below xB2.out ue.out xB2.out.lt).lt |>.cell (i := 0) (by omega)) (bx_below we (.cells #[.slice none 0 0] 29))
                       have hs_2 := keep_set zb.out (rowIs_below xB2.out ue.out xB2.out.lt) (Nat.lt_of_lt_of_le xB2.out.lt lz.out) (Value.slice AX nX cX)
                       have hw_3 := rowIs_below xB3.out ue.out xB3.out.lt |>.cell (i := 0) (by omega)
                       have hv_3 := (fun b => rowIs_below (rowIs_below xB3.out ue.out xB3.out.lt) b (rowIs_below xB3.out ue.out xB3.out.lt).lt |>.cell (i := 0) (by omega)) (bx_below we (.cells #[.slice AX nX cX] 29))
                       have hu_3 := (fun b => rowIs_below (rowIs_below xB3.out ue.out xB3.out.lt) b (rowIs_below xB3.out ue.out xB3.out.lt).lt |>.cell (i := 0) (by omega)) (bx_below we (.cells #[.slice none 0 0] 29))
                       have hs_3 := keep_set zb.out (rowIs_below xB3.out ue.out xB3.out.lt) (Nat.lt_of_lt_of_le xB3.out.lt lz.out) (Value.slice AX nX cX)
                       clear be oe kb))
                  all_goals
                    go_wp2_with fail
                    go_meet
                    case rel => first
                      | exact ⟨_, _, _, _, rfl, rfl, Lib.hid ((ye.out.below (bx_below we _)).fewer hB.out), Lib.hid (bx_row we _ _), Lib.hid ue.out.size, Lib.hid (ue.out.trans ((bx_below we _).mono ue.out.size))⟩
                      | exact ⟨_, _, _, _, rfl, rfl, Lib.hid ((ye.out.setBox gz.out _).fewer hB.out), Lib.hid ((zb.out.set 0 _).congr (fun i hi => by rw [if_pos (by omega)])), Lib.hid lz.out, Lib.hid (ue.out.setCell (p := ⟨_, 0, none⟩) lz.out _)⟩
                case rest =>
                  obtain ⟨AH, nH, cH, gHB, rfl, rfl, yH, xgHB, lgHB, k5⟩ := hcut
                  skip
                  clear hT
                  have k6 := k5.out
                  clear k5
                  clear hcB2 hcB3
                  have hnH : nH ≤ 100 := by rw [← yH.out.len]; exact hlen.out
                  replace u := Lib.hid (u.out.trans (k6.mono u.out.size))
                  replace sz := Lib.hid (Nat.le_trans sz.out k6.size)
                  replace xB2 := Lib.hid (rowIs_below xB2.out k6 xB2.out.lt)
                  replace xB3 := Lib.hid (rowIs_below xB3.out k6 xB3.out.lt)
                  replace yM := Lib.hid (yM.out.below k6)
                  replace xgMB := Lib.hid (rowIs_below xgMB.out k6 xgMB.out.lt)
                  replace yP := Lib.hid (yP.out.below k6)
                  replace xgPB := Lib.hid (rowIs_below xgPB.out k6 xgPB.out.lt)
                  clear k6
                  have hrgHB := xgHB.out.cell (i := 0) (by omega)
                  have hrgMB := xgMB.out.cell (i := 0) (by omega)
                  go_wp2_with fail
                  refine (eqPool_b AH AM nH nM cH cM _ _ yH.out.votes yM.out.votes (by omega) (by omega)).mono ?_
                  rintro e w23 ⟨rfl, b23⟩
                  clear hrgHB hrgMB
                  replace u := Lib.hid (u.out.trans (b23.mono u.out.size))
                  replace sz := Lib.hid (Nat.le_trans sz.out b23.size)
                  replace xB2 := Lib.hid (rowIs_below xB2.out b23 xB2.out.lt)
                  replace xB3 := Lib.hid (rowIs_below xB3.out b23 xB3.out.lt)
                  replace yM := Lib.hid (yM.out.below b23)
                  replace xgMB := Lib.hid (rowIs_below xgMB.out b23 xgMB.out.lt)
                  replace yP := Lib.hid (yP.out.below b23)
                  replace xgPB := Lib.hid (rowIs_below xgPB.out b23 xgPB.out.lt)
                  replace yH := Lib.hid (yH.out.below b23)
                  replace xgHB := Lib.hid (rowIs_below xgHB.out b23 xgHB.out.lt)
                  clear b23
                  have hrgPB := xgPB.out.cell (i := 0) (by omega)
                  go_wp2_with fail
                  refine (heldPool_b AP nP cP 1 _ yP.out.votes (by omega) (by decide) (by decide)).mono ?_
                  rintro e w24 ⟨rfl, b24⟩
                  clear hrgPB
                  replace u := Lib.hid (u.out.trans (b24.mono u.out.size))
                  replace sz := Lib.hid (Nat.le_trans sz.out b24.size)
                  replace xB2 := Lib.hid (rowIs_below xB2.out b24 xB2.out.lt)
                  replace xB3 := Lib.hid (rowIs_below xB3.out b24 xB3.out.lt)
                  replace yM := Lib.hid (yM.out.below b24)
                  replace xgMB := Lib.hid (rowIs_below xgMB.out b24 xgMB.out.lt)
                  replace yP := Lib.hid (yP.out.below b24)
                  replace xgPB := Lib.hid (rowIs_below xgPB.out b24 xgPB.out.lt)
                  replace yH := Lib.hid (yH.out.below b24)
                  replace xgHB := Lib.hid (rowIs_below xgHB.out b24 xgHB.out.lt)
                  clear b24
                  go_wp2_with fail
                  go_ret
                  exact ⟨rfl, u.out⟩
        · skip
          have lf3 := Lib.hid (show (if (n3 : Int) ≤ 1048576 - (n0 : Int) - (n2 : Int) then 1048576 - (n0 : Int) - (n2 : Int) - (n3 : Int) else -1) = -1 from if_neg hz3)
          clear h0 h1 h2 h3
          go_enter Try.func5, Try.ntmps5
          have tk0 : True := trivial
          go_wp2_with (first
            | (clear tk0; go_at_call 14; refine (szBlk_g _ n0 _ (1048576) _ hn0 (by omega) (by omega)).mono ?_; rintro e w' ⟨rfl, rfl⟩; rw [lf0.out]; have tk1 : True := trivial)
            | (clear tk1; go_at_call 30; refine (szPool_g _ n2 _ (1048576 - (n0 : Int)) _ hn2 (by omega) (by omega)).mono ?_; rintro e w2z ⟨rfl, bz⟩; rw [lf2.out]; replace u := Lib.hid (u.out.trans (bz.mono u.out.size)); replace sz := Lib.hid (Nat.le_trans sz.out bz.size); replace xB2 := Lib.hid (rowIs_below xB2.out bz xB2.out.lt); replace xB3 := Lib.hid (rowIs_below xB3.out bz xB3.out.lt); clear bz hcB2 hcB3; have hcB2 := xB2.out.cell (i := 0) (by omega); have hcB3 := xB3.out.cell (i := 0) (by omega); have tk2 : True := trivial)
            | (clear tk2; go_at_call 30; refine (szPool_g _ n3 _ (1048576 - (n0 : Int) - (n2 : Int)) _ hn3 (by omega) (by omega)).mono ?_; rintro e w3z ⟨rfl, bz⟩; rw [lf3.out]; replace u := Lib.hid (u.out.trans (bz.mono u.out.size)); replace sz := Lib.hid (Nat.le_trans sz.out bz.size); replace xB2 := Lib.hid (rowIs_below xB2.out bz xB2.out.lt); replace xB3 := Lib.hid (rowIs_below xB3.out bz xB3.out.lt); clear bz hcB2 hcB3; have hcB2 := xB2.out.cell (i := 0) (by omega); have hcB3 := xB3.out.cell (i := 0) (by omega); have tk3 : True := trivial))
          go_ret
          exact ⟨rfl, u.out⟩
      · skip
        have lf2 := Lib.hid (show (if (n2 : Int) ≤ 1048576 - (n0 : Int) then 1048576 - (n0 : Int) - (n2 : Int) else -1) = -1 from if_neg hz2)
        clear h0 h1 h2 h3
        go_enter Try.func5, Try.ntmps5
        have tk0 : True := trivial
        go_wp2_with (first
          | (clear tk0; go_at_call 14; refine (szBlk_g _ n0 _ (1048576) _ hn0 (by omega) (by omega)).mono ?_; rintro e w' ⟨rfl, rfl⟩; rw [lf0.out]; have tk1 : True := trivial)
          | (clear tk1; go_at_call 30; refine (szPool_g _ n2 _ (1048576 - (n0 : Int)) _ hn2 (by omega) (by omega)).mono ?_; rintro e w2z ⟨rfl, bz⟩; rw [lf2.out]; replace u := Lib.hid (u.out.trans (bz.mono u.out.size)); replace sz := Lib.hid (Nat.le_trans sz.out bz.size); replace xB2 := Lib.hid (rowIs_below xB2.out bz xB2.out.lt); replace xB3 := Lib.hid (rowIs_below xB3.out bz xB3.out.lt); clear bz hcB2 hcB3; have hcB2 := xB2.out.cell (i := 0) (by omega); have hcB3 := xB3.out.cell (i := 0) (by omega); have tk2 : True := trivial))
        go_ret
        exact ⟨rfl, u.out⟩
    · skip
      have lf0 := Lib.hid (show (if (n0 : Int) ≤ 1048576 then 1048576 - (n0 : Int) else -1) = -1 from if_neg hz0)
      clear h0 h1 h2 h3
      go_enter Try.func5, Try.ntmps5
      have tk0 : True := trivial
      go_wp2_with (first
        | (clear tk0; go_at_call 14; refine (szBlk_g _ n0 _ (1048576) _ hn0 (by omega) (by omega)).mono ?_; rintro e w' ⟨rfl, rfl⟩; rw [lf0.out]; have tk1 : True := trivial))
      go_ret
      exact ⟨rfl, u.out⟩
  · skip
    have hgt : (1048576 : Int) < (n1 : Int) := by omega
    clear h0 h1 h2 h3
    go_enter Try.func5, Try.ntmps5
    go_wp2_with fail
    go_ret
    exact ⟨rfl, u.out⟩
end Go.Proofs.Ytlobjfipefibaaa
