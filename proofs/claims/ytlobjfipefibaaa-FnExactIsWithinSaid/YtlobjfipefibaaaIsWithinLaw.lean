/- What is proved here: the law on IsWithin returns true at every argument, and writes nothing that was there. No conditions. -/
import Derived.Test.YtlobjfipefibaaaWithinImpl
import Derived.Test.YtlobjfipefibaaaViewSpec
import Derived.Test.YtlobjfipefibaaaPoolRes
import Derived.Test.YtlobjfipefibaaaOpenVotes
import Derived.Deep.Cut
import Derived.Deep.CutRange
import Derived.Deep.RegionHeld3
namespace Go.Proofs.Ytlobjfipefibaaa
open Go.RowKit

set_option maxRecDepth 100000 in
set_option maxHeartbeats 32000000 in
theorem lawIsWithin (A0 : Option Addr) (n0 c0 : Nat) (l0 : List Blk) (A1 : Option Addr) (n1 c1 : Nat) (l1 : List Int) (A2 : Option Addr) (n2 c2 : Nat) (l2 : List Vt) (A3 : Option Addr) (n3 c3 : Nat) (l3 : List Vt) (w : World) (h0 : BlksAt w w.heap.size A0 n0 l0) (hn0 : n0 ≤ 140737488351232) (h1 : IntsAt w w.heap.size A1 n1 l1) (hn1 : n1 ≤ 140737488351232) (h2 : VotesAt w w.heap.size A2 n2 l2) (hn2 : n2 ≤ 9223372036854775807) (h3 : VotesAt w w.heap.size A3 n3 l3) (hn3 : n3 ≤ 9223372036854775807) :
    Calls Try.prog 11 #[.slice A0 n0 c0, .slice A1 n1 c1, .agg #[.slice A2 n2 c2], .agg #[.slice A3 n3 c3]] w fun e w' => e = .returned (.bool true) ∧ Below w.heap.size w w' := by
  have u := Lib.hid (Below.refl w.heap.size w)
  have xB2 := Lib.hid (bx_row (w) (.slice A2 n2 c2) 46)
  replace u := Lib.hid (u.out.trans ((bx_below (w) (.cells #[.slice A2 n2 c2] 46)).mono u.out.size))
  replace xB2 := Lib.hid (rowIs_below xB2.out (bx_below ((w).alloc (.cells #[.slice A2 n2 c2] 46)) (.cells #[.slice A3 n3 c3] 46)) xB2.out.lt)
  have xB3 := Lib.hid (bx_row ((w).alloc (.cells #[.slice A2 n2 c2] 46)) (.slice A3 n3 c3) 46)
  replace u := Lib.hid (u.out.trans ((bx_below ((w).alloc (.cells #[.slice A2 n2 c2] 46)) (.cells #[.slice A3 n3 c3] 46)).mono u.out.size))
  simp only [World.size_alloc] at xB3
  have sz := Lib.hid (show w.heap.size + 2 ≤ (((w).alloc (.cells #[.slice A2 n2 c2] 46)).alloc (.cells #[.slice A3 n3 c3] 46)).heap.size by simp)
  have lo_xB2 := Lib.hid (show w.heap.size + 0 ≤ w.heap.size by omega)
  have hi_xB2 := Lib.hid (show w.heap.size < w.heap.size + 1 by omega)
  have lo_xB3 := Lib.hid (show w.heap.size + 1 ≤ (w.heap.size + 1) by omega)
  have hi_xB3 := Lib.hid (show (w.heap.size + 1) < w.heap.size + 2 by omega)
  have hcB2 := xB2.out.cell (i := 0) (by omega)
  have hcB3 := xB3.out.cell (i := 0) (by omega)
  by_cases hm1 : n1 ≤ 1048576
  · skip
    by_cases hz0 : (n0 : Int) ≤ 1048576
    · skip
      have hm0 : n0 ≤ 1048576 := by omega
      have lf0 := Lib.hid (show (if (n0 : Int) ≤ 1048576 then 1048576 - (n0 : Int) else -1) = 1048576 - (n0 : Int) from if_pos hz0)
      have lp0 : ¬ (1048576 - (n0 : Int) < 0) := by omega
      by_cases hz2 : (n2 : Int) ≤ 1048576 - (n0 : Int)
      · skip
        have hm2 : n2 ≤ 1048576 := by omega
        have lf2 := Lib.hid (show (if (n2 : Int) ≤ 1048576 - (n0 : Int) then 1048576 - (n0 : Int) - (n2 : Int) else -1) = 1048576 - (n0 : Int) - (n2 : Int) from if_pos hz2)
        have lp2 : ¬ (1048576 - (n0 : Int) - (n2 : Int) < 0) := by omega
        by_cases hz3 : (n3 : Int) ≤ 1048576 - (n0 : Int) - (n2 : Int)
        · skip
          have hm3 : n3 ≤ 1048576 := by omega
          have lf3 := Lib.hid (show (if (n3 : Int) ≤ 1048576 - (n0 : Int) - (n2 : Int) then 1048576 - (n0 : Int) - (n2 : Int) - (n3 : Int) else -1) = 1048576 - (n0 : Int) - (n2 : Int) - (n3 : Int) from if_pos hz3)
          have lp3 : ¬ (1048576 - (n0 : Int) - (n2 : Int) - (n3 : Int) < 0) := by omega
          have le0 := Lib.hid h0.1; have ha0 := Lib.hid h0
          have le1 := Lib.hid h1.1; have ha1 := Lib.hid h1
          have le2 := Lib.hid h2.1; have ha2 := Lib.hid h2
          have le3 := Lib.hid h3.1; have ha3 := Lib.hid h3
          clear h0 h1 h2 h3 hz0 hz2 hz3
          have hq0 : (wiR l0 l1 l2 l3 != wiR l0 l1 l2 l3) = false := by simp
          have hq1 : (wiOK l0 l1 l2 l3 != wiOK l0 l1 l2 l3) = false := by simp
          go_enter Try.func11, Try.ntmps11
          have tk0 : True := trivial
          go_upto_region 13 with (first
            | (clear tk0; go_at_call 14; refine (szBlk_g _ n0 _ (1048576) _ hn0 (by omega) (by omega)).mono ?_; rintro e w' ⟨rfl, rfl⟩; rw [lf0.out]; have tk1 : True := trivial)
            | (clear tk1; go_at_call 30; refine (szPool_g _ n2 _ (1048576 - (n0 : Int)) _ hn2 (by omega) (by omega)).mono ?_; rintro e w2z ⟨rfl, bz⟩; rw [lf2.out]; replace u := Lib.hid (u.out.trans (bz.mono u.out.size)); replace sz := Lib.hid (Nat.le_trans sz.out bz.size); replace xB2 := Lib.hid (rowIs_below xB2.out bz xB2.out.lt); replace xB3 := Lib.hid (rowIs_below xB3.out bz xB3.out.lt); clear bz hcB2 hcB3; have hcB2 := xB2.out.cell (i := 0) (by omega); have hcB3 := xB3.out.cell (i := 0) (by omega); have tk2 : True := trivial)
            | (clear tk2; go_at_call 30; refine (szPool_g _ n3 _ (1048576 - (n0 : Int) - (n2 : Int)) _ hn3 (by omega) (by omega)).mono ?_; rintro e w3z ⟨rfl, bz⟩; rw [lf3.out]; replace u := Lib.hid (u.out.trans (bz.mono u.out.size)); replace sz := Lib.hid (Nat.le_trans sz.out bz.size); replace xB2 := Lib.hid (rowIs_below xB2.out bz xB2.out.lt); replace xB3 := Lib.hid (rowIs_below xB3.out bz xB3.out.lt); clear bz hcB2 hcB3; have hcB2 := xB2.out.cell (i := 0) (by omega); have hcB3 := xB3.out.cell (i := 0) (by omega); have tk3 : True := trivial))
          clear tk3
          have hT := Lib.hid (toBlk_g A0 n0 c0 l0 w3z.drew (show BlksAt w3z.drew w3z.drew.heap.size A0 n0 l0 from ⟨(ha0.out.up u.out).1, (ha0.out.up u.out).2⟩) hm0)
          go_cut [10, 11] from 36 to 47 (fun s t wx => s = .bool (wiR l0 l1 l2 l3) ∧ t = .bool (wiOK l0 l1 l2 l3) ∧ Hid (Below w3z.heap.size w3z wx))
          case first =>
            have tk0 : True := trivial
            go_region_with (first
              | (clear tk0
                 go_at_call 17
                 refine hT.out.mono ?_
                 rintro e wy0 ⟨gy0, rfl, ry, by0, _, _⟩
                 have by_ := by0
                 have y0 := Lib.hid ry
                 have ua0 := Lib.hid (show Below w3z.heap.size w3z wy0 from ⟨by_.os, by_.tape, by_.output, by_.size, by_.block⟩)
                 have hd0_2 := rowIs_below xB2.out ua0.out xB2.out.lt |>.cell (i := 0) (by omega)
                 have hd0_3 := rowIs_below xB3.out ua0.out xB3.out.lt |>.cell (i := 0) (by omega)
                 clear ry by_ by0
                 have tk1 : True := trivial)
              | (clear tk1
                 go_at_call 18
                 refine (toInt_g A1 n1 c1 l1 _ (ha1.out.up' (u.out.trans (ua0.out.mono u.out.size))) hm1).mono ?_
                 rintro e wy1 ⟨gy1, rfl, ry, by0, _, _⟩
                 have by_ := by0
                 have y1 := Lib.hid ry
                 replace y0 := Lib.hid (rowIs_below y0.out by_ y0.out.lt)
                 have ua1 := Lib.hid (ua0.out.trans (by_.mono ua0.out.size))
                 have hd1_2 := rowIs_below xB2.out ua1.out xB2.out.lt |>.cell (i := 0) (by omega)
                 have hd1_3 := rowIs_below xB3.out ua1.out xB3.out.lt |>.cell (i := 0) (by omega)
                 clear ry by_ by0
                 have tk2 : True := trivial)
              | (clear tk2
                 go_at_call 32
                 refine (toPool_g A2 n2 c2 l2 _ (ha2.out.up (u.out.trans (ua1.out.mono u.out.size))) hm2).mono ?_
                 rintro e wy2 ⟨gy2, rfl, ry, by0, _, _⟩
                 have by_ := by0
                 have y2 := Lib.hid ry
                 replace y0 := Lib.hid (rowIs_below y0.out by_ y0.out.lt)
                 replace y1 := Lib.hid (rowIs_below y1.out by_ y1.out.lt)
                 have ua2 := Lib.hid (ua1.out.trans (by_.mono ua1.out.size))
                 have hd2_2 := rowIs_below xB2.out ua2.out xB2.out.lt |>.cell (i := 0) (by omega)
                 have hd2_3 := rowIs_below xB3.out ua2.out xB3.out.lt |>.cell (i := 0) (by omega)
                 clear ry by_ by0
                 have tk3 : True := trivial)
              | (clear tk3
                 go_at_call 32
                 refine (toPool_g A3 n3 c3 l3 _ (ha3.out.up (u.out.trans (ua2.out.mono u.out.size))) hm3).mono ?_
                 rintro e wy3 ⟨gy3, rfl, ry, by0, _, _⟩
                 have by_ := by0
                 have y3 := Lib.hid ry
                 replace y0 := Lib.hid (rowIs_below y0.out by_ y0.out.lt)
                 replace y1 := Lib.hid (rowIs_below y1.out by_ y1.out.lt)
                 replace y2 := Lib.hid (rowIs_below y2.out by_ y2.out.lt)
                 have ua3 := Lib.hid (ua2.out.trans (by_.mono ua2.out.size))
                 have hd3_2 := rowIs_below xB2.out ua3.out xB2.out.lt |>.cell (i := 0) (by omega)
                 have hd3_3 := rowIs_below xB3.out ua3.out xB3.out.lt |>.cell (i := 0) (by omega)
                 clear ry by_ by0
                 have tk4 : True := trivial)
              | (clear tk4
                 go_at_call 52
                 refine (specIsWithin_any _ n0 _ l0 _ n1 _ l1 _ n2 _ l2 _ n3 _ l3 _ (row_blks' le0.out y0.out) (row_ints le1.out y1.out) (row_votesB le2.out y2.out) (row_votesB le3.out y3.out) hm0 hm1 hm2 hm3 (Nat.le_refl _) (fun e => by cases e) (Nat.le_refl _) (fun e => by cases e)).mono ?_
                 rintro e we ⟨rfl, be⟩
                 have ue := Lib.hid (ua3.out.trans (be.mono ua3.out.size))
                 clear be))
            all_goals
              go_wp2_with fail
              go_meet
              case rel => exact ⟨rfl, rfl, ue⟩
          case rest =>
            obtain ⟨rfl, rfl, k5⟩ := hcut
            skip
            clear hT
            have k6 := k5.out
            clear k5
            clear hcB2 hcB3
            replace u := Lib.hid (u.out.trans (k6.mono u.out.size))
            replace sz := Lib.hid (Nat.le_trans sz.out k6.size)
            replace xB2 := Lib.hid (rowIs_below xB2.out k6 xB2.out.lt)
            replace xB3 := Lib.hid (rowIs_below xB3.out k6 xB3.out.lt)
            clear k6
            go_wp2_with fail
            refine (toBlk_g A0 n0 c0 l0 _ (ha0.out.up u.out) hm0).mono ?_
            rintro e w6 ⟨gP, rfl, rP, b6, dP, fP⟩
            have xP := Lib.hid rP; clear rP
            have lo_xP := Lib.hid (Nat.le_trans sz.out dP); have hi_xP := Lib.hid fP; clear dP fP
            replace u := Lib.hid (u.out.trans (b6.mono u.out.size))
            replace sz := Lib.hid (Nat.le_trans sz.out b6.size)
            replace xB2 := Lib.hid (rowIs_below xB2.out b6 xB2.out.lt)
            replace xB3 := Lib.hid (rowIs_below xB3.out b6 xB3.out.lt)
            clear b6
            clear sz
            have sz := Lib.hid (Nat.le_refl w6.heap.size)
            go_wp2_with fail
            refine (toInt_g A1 n1 c1 l1 _ (ha1.out.up' u.out) hm1).mono ?_
            rintro e w7 ⟨gQ, rfl, rQ, b7, dQ, fQ⟩
            have xQ := Lib.hid rQ; clear rQ
            have lo_xQ := Lib.hid (Nat.le_trans sz.out dQ); have hi_xQ := Lib.hid fQ; clear dQ fQ
            replace u := Lib.hid (u.out.trans (b7.mono u.out.size))
            replace sz := Lib.hid (Nat.le_trans sz.out b7.size)
            replace xB2 := Lib.hid (rowIs_below xB2.out b7 xB2.out.lt)
            replace xB3 := Lib.hid (rowIs_below xB3.out b7 xB3.out.lt)
            replace xP := Lib.hid (rowIs_below xP.out b7 xP.out.lt)
            clear b7
            clear sz
            have sz := Lib.hid (Nat.le_refl w7.heap.size)
            have hcB2 := xB2.out.cell (i := 0) (by omega)
            go_wp2_with fail
            refine (toPool_g A2 n2 c2 l2 _ (ha2.out.up u.out) hm2).mono ?_
            rintro e w8 ⟨gR, rfl, rR, b8, dR, fR⟩
            clear hcB2
            have xR := Lib.hid rR; clear rR
            have lo_xR := Lib.hid (Nat.le_trans sz.out dR); have hi_xR := Lib.hid fR; clear dR fR
            replace u := Lib.hid (u.out.trans (b8.mono u.out.size))
            replace sz := Lib.hid (Nat.le_trans sz.out b8.size)
            replace xB2 := Lib.hid (rowIs_below xB2.out b8 xB2.out.lt)
            replace xB3 := Lib.hid (rowIs_below xB3.out b8 xB3.out.lt)
            replace xP := Lib.hid (rowIs_below xP.out b8 xP.out.lt)
            replace xQ := Lib.hid (rowIs_below xQ.out b8 xQ.out.lt)
            clear b8
            clear sz
            have sz := Lib.hid (Nat.le_refl w8.heap.size)
            have xbR := Lib.hid (bx_row w8 (.slice (some ⟨gR, 0, none⟩) n2 n2) 29)
            have kk : Below w8.heap.size w8 (w8.alloc (.cells #[.slice (some ⟨gR, 0, none⟩) n2 n2] 29)) := bx_below w8 _
            have lo_xbR := Lib.hid (Nat.le_refl w8.heap.size); have hi_xbR := Lib.hid (Nat.lt_succ_self w8.heap.size)
            replace u := Lib.hid (u.out.trans (kk.mono u.out.size))
            replace sz := Lib.hid (Nat.le_trans sz.out kk.size)
            replace xB2 := Lib.hid (rowIs_below xB2.out kk xB2.out.lt)
            replace xB3 := Lib.hid (rowIs_below xB3.out kk xB3.out.lt)
            replace xP := Lib.hid (rowIs_below xP.out kk xP.out.lt)
            replace xQ := Lib.hid (rowIs_below xQ.out kk xQ.out.lt)
            replace xR := Lib.hid (rowIs_below xR.out kk xR.out.lt)
            clear kk
            clear sz
            have sz := Lib.hid (show w8.heap.size + 1 ≤ (w8.alloc (.cells #[.slice (some ⟨gR, 0, none⟩) n2 n2] 29)).heap.size by simp)
            have hcB3 := xB3.out.cell (i := 0) (by omega)
            go_wp2_with fail
            refine (toPool_g A3 n3 c3 l3 _ (ha3.out.up u.out) hm3).mono ?_
            rintro e w9 ⟨gS, rfl, rS, b9, dS, fS⟩
            clear hcB3
            have xS := Lib.hid rS; clear rS
            have lo_xS := Lib.hid (Nat.le_trans sz.out dS); have hi_xS := Lib.hid fS; clear dS fS
            replace u := Lib.hid (u.out.trans (b9.mono u.out.size))
            replace sz := Lib.hid (Nat.le_trans sz.out b9.size)
            replace xB2 := Lib.hid (rowIs_below xB2.out b9 xB2.out.lt)
            replace xB3 := Lib.hid (rowIs_below xB3.out b9 xB3.out.lt)
            replace xP := Lib.hid (rowIs_below xP.out b9 xP.out.lt)
            replace xQ := Lib.hid (rowIs_below xQ.out b9 xQ.out.lt)
            replace xR := Lib.hid (rowIs_below xR.out b9 xR.out.lt)
            replace xbR := Lib.hid (rowIs_below xbR.out b9 xbR.out.lt)
            clear b9
            clear sz
            have sz := Lib.hid (Nat.le_refl w9.heap.size)
            have xbS := Lib.hid (bx_row w9 (.slice (some ⟨gS, 0, none⟩) n3 n3) 29)
            have kk : Below w9.heap.size w9 (w9.alloc (.cells #[.slice (some ⟨gS, 0, none⟩) n3 n3] 29)) := bx_below w9 _
            have lo_xbS := Lib.hid (Nat.le_refl w9.heap.size); have hi_xbS := Lib.hid (Nat.lt_succ_self w9.heap.size)
            replace u := Lib.hid (u.out.trans (kk.mono u.out.size))
            replace sz := Lib.hid (Nat.le_trans sz.out kk.size)
            replace xB2 := Lib.hid (rowIs_below xB2.out kk xB2.out.lt)
            replace xB3 := Lib.hid (rowIs_below xB3.out kk xB3.out.lt)
            replace xP := Lib.hid (rowIs_below xP.out kk xP.out.lt)
            replace xQ := Lib.hid (rowIs_below xQ.out kk xQ.out.lt)
            replace xR := Lib.hid (rowIs_below xR.out kk xR.out.lt)
            replace xbR := Lib.hid (rowIs_below xbR.out kk xbR.out.lt)
            replace xS := Lib.hid (rowIs_below xS.out kk xS.out.lt)
            clear kk
            clear sz
            have sz := Lib.hid (show w9.heap.size + 1 ≤ (w9.alloc (.cells #[.slice (some ⟨gS, 0, none⟩) n3 n3] 29)).heap.size by simp)
            have hcX2 := xbR.out.cell (i := 0) (by omega)
            have hcX3 := xbS.out.cell (i := 0) (by omega)
            go_wp2_with fail
            refine (implIsWithin_any _ n0 _ l0 _ n1 _ l1 _ n2 _ l2 _ n3 _ l3 _ (row_blks' le0.out xP.out) (row_ints le1.out xQ.out) (row_votesB le2.out xR.out) (row_votesB le3.out xS.out) hm0 hm1 hm2 hm3 (Nat.le_refl _) (fun e => by cases e) (Nat.le_refl _) (fun e => by cases e)).mono ?_
            rintro e w10 ⟨rfl, b10⟩
            clear hcX2 hcX3
            replace u := Lib.hid (u.out.trans (b10.mono u.out.size))
            replace sz := Lib.hid (Nat.le_trans sz.out b10.size)
            replace xB2 := Lib.hid (rowIs_below xB2.out b10 xB2.out.lt)
            replace xB3 := Lib.hid (rowIs_below xB3.out b10 xB3.out.lt)
            replace xP := Lib.hid (rowIs_below xP.out b10 xP.out.lt)
            replace xQ := Lib.hid (rowIs_below xQ.out b10 xQ.out.lt)
            replace xR := Lib.hid (rowIs_below xR.out b10 xR.out.lt)
            replace xbR := Lib.hid (rowIs_below xbR.out b10 xbR.out.lt)
            replace xS := Lib.hid (rowIs_below xS.out b10 xS.out.lt)
            replace xbS := Lib.hid (rowIs_below xbS.out b10 xbS.out.lt)
            clear b10
            go_wp2_with fail
            refine (toBlk_g A0 n0 c0 l0 _ (ha0.out.up u.out) hm0).mono ?_
            rintro e w11 ⟨gZ, rfl, rZ, b11, _, _⟩
            have xZ := Lib.hid rZ; clear rZ
            replace u := Lib.hid (u.out.trans (b11.mono u.out.size))
            replace sz := Lib.hid (Nat.le_trans sz.out b11.size)
            replace xB2 := Lib.hid (rowIs_below xB2.out b11 xB2.out.lt)
            replace xB3 := Lib.hid (rowIs_below xB3.out b11 xB3.out.lt)
            replace xP := Lib.hid (rowIs_below xP.out b11 xP.out.lt)
            replace xQ := Lib.hid (rowIs_below xQ.out b11 xQ.out.lt)
            replace xR := Lib.hid (rowIs_below xR.out b11 xR.out.lt)
            replace xbR := Lib.hid (rowIs_below xbR.out b11 xbR.out.lt)
            replace xS := Lib.hid (rowIs_below xS.out b11 xS.out.lt)
            replace xbS := Lib.hid (rowIs_below xbS.out b11 xbS.out.lt)
            clear b11
            go_wp2_with fail
            refine (eqBlk_b _ _ n0 n0 _ _ l0 _ (row_blks' le0.out xP.out) (row_blks' le0.out xZ.out) hm0 hm0).mono ?_
            rintro e w12 ⟨rfl, b12⟩
            replace u := Lib.hid (u.out.trans (b12.mono u.out.size))
            replace sz := Lib.hid (Nat.le_trans sz.out b12.size)
            replace xB2 := Lib.hid (rowIs_below xB2.out b12 xB2.out.lt)
            replace xB3 := Lib.hid (rowIs_below xB3.out b12 xB3.out.lt)
            replace xP := Lib.hid (rowIs_below xP.out b12 xP.out.lt)
            replace xQ := Lib.hid (rowIs_below xQ.out b12 xQ.out.lt)
            replace xR := Lib.hid (rowIs_below xR.out b12 xR.out.lt)
            replace xbR := Lib.hid (rowIs_below xbR.out b12 xbR.out.lt)
            replace xS := Lib.hid (rowIs_below xS.out b12 xS.out.lt)
            replace xbS := Lib.hid (rowIs_below xbS.out b12 xbS.out.lt)
            replace xZ := Lib.hid (rowIs_below xZ.out b12 xZ.out.lt)
            clear b12
            clear xZ
            go_wp2_with fail
            refine (toInt_g A1 n1 c1 l1 _ (ha1.out.up' u.out) hm1).mono ?_
            rintro e w13 ⟨gZ, rfl, rZ, b13, _, _⟩
            have xZ := Lib.hid rZ; clear rZ
            replace u := Lib.hid (u.out.trans (b13.mono u.out.size))
            replace sz := Lib.hid (Nat.le_trans sz.out b13.size)
            replace xB2 := Lib.hid (rowIs_below xB2.out b13 xB2.out.lt)
            replace xB3 := Lib.hid (rowIs_below xB3.out b13 xB3.out.lt)
            replace xP := Lib.hid (rowIs_below xP.out b13 xP.out.lt)
            replace xQ := Lib.hid (rowIs_below xQ.out b13 xQ.out.lt)
            replace xR := Lib.hid (rowIs_below xR.out b13 xR.out.lt)
            replace xbR := Lib.hid (rowIs_below xbR.out b13 xbR.out.lt)
            replace xS := Lib.hid (rowIs_below xS.out b13 xS.out.lt)
            replace xbS := Lib.hid (rowIs_below xbS.out b13 xbS.out.lt)
            clear b13
            go_wp2_with fail
            refine (eqInt_b _ _ n1 n1 _ _ l1 _ (row_ints le1.out xQ.out) (row_ints le1.out xZ.out) hm1 hm1).mono ?_
            rintro e w14 ⟨rfl, b14⟩
            replace u := Lib.hid (u.out.trans (b14.mono u.out.size))
            replace sz := Lib.hid (Nat.le_trans sz.out b14.size)
            replace xB2 := Lib.hid (rowIs_below xB2.out b14 xB2.out.lt)
            replace xB3 := Lib.hid (rowIs_below xB3.out b14 xB3.out.lt)
            replace xP := Lib.hid (rowIs_below xP.out b14 xP.out.lt)
            replace xQ := Lib.hid (rowIs_below xQ.out b14 xQ.out.lt)
            replace xR := Lib.hid (rowIs_below xR.out b14 xR.out.lt)
            replace xbR := Lib.hid (rowIs_below xbR.out b14 xbR.out.lt)
            replace xS := Lib.hid (rowIs_below xS.out b14 xS.out.lt)
            replace xbS := Lib.hid (rowIs_below xbS.out b14 xbS.out.lt)
            replace xZ := Lib.hid (rowIs_below xZ.out b14 xZ.out.lt)
            clear b14
            clear xZ
            have hcB2 := xB2.out.cell (i := 0) (by omega)
            have hcX2 := xbR.out.cell (i := 0) (by omega)
            have hT2 := Lib.hid (toPool_g A2 n2 c2 l2 w14.drew (show VotesAt w14.drew w14.drew.heap.size A2 n2 l2 from ⟨(ha2.out.up u.out).1, (ha2.out.up u.out).2⟩) hm2)
            go_upto_region 25 with fail
            go_cut [86] from 82 to 86 (fun s wx => s = .bool false ∧ Hid (Below w14.heap.size w14 wx))
            case first =>
              go_region_with (first
                | (go_at_call 32
                   refine hT2.out.mono ?_
                   rintro e wa ⟨ga, rfl, ra, ba, _, _⟩
                   have xa := Lib.hid ra
                   have ua := Lib.hid (show Below w14.heap.size w14 wa from ⟨ba.os, ba.tape, ba.output, ba.size, ba.block⟩)
                   have hd1 := rowIs_below xB2.out ua.out xB2.out.lt |>.cell (i := 0) (by omega)
                   have hd2 := rowIs_below xbR.out ua.out xbR.out.lt |>.cell (i := 0) (by omega)
                   have xRa := Lib.hid (rowIs_below xR.out ua.out xR.out.lt)
                   clear ra ba)
                | (go_at_call 21
                   refine (eqPool_b _ _ n2 n2 n2 n2 l2 _ (row_votesB le2.out xRa.out) (row_votesB le2.out xa.out) hm2 hm2).mono ?_
                   rintro e wb ⟨rfl, bb⟩
                   have ub := Lib.hid (ua.out.trans (bb.mono ua.out.size))
                   clear bb))
              all_goals
                go_wp2_with fail
                go_meet
                case rel => exact ⟨rfl, ub⟩
            case rest =>
              obtain ⟨rfl, k6⟩ := hcut
              have k7 := k6.out
              clear k6 hcB2 hcX2 hT2
              replace u := Lib.hid (u.out.trans (k7.mono u.out.size))
              replace sz := Lib.hid (Nat.le_trans sz.out k7.size)
              replace xB2 := Lib.hid (rowIs_below xB2.out k7 xB2.out.lt)
              replace xB3 := Lib.hid (rowIs_below xB3.out k7 xB3.out.lt)
              replace xP := Lib.hid (rowIs_below xP.out k7 xP.out.lt)
              replace xQ := Lib.hid (rowIs_below xQ.out k7 xQ.out.lt)
              replace xR := Lib.hid (rowIs_below xR.out k7 xR.out.lt)
              replace xbR := Lib.hid (rowIs_below xbR.out k7 xbR.out.lt)
              replace xS := Lib.hid (rowIs_below xS.out k7 xS.out.lt)
              replace xbS := Lib.hid (rowIs_below xbS.out k7 xbS.out.lt)
              clear k7
              have hcB3 := xB3.out.cell (i := 0) (by omega)
              have hcX3 := xbS.out.cell (i := 0) (by omega)
              have hT2 := Lib.hid (toPool_g A3 n3 c3 l3 wc.drew (show VotesAt wc.drew wc.drew.heap.size A3 n3 l3 from ⟨(ha3.out.up u.out).1, (ha3.out.up u.out).2⟩) hm3)
              go_upto_region 27 with fail
              go_cut [91] from 87 to 91 (fun s wx => s = .bool false ∧ Hid (Below wc.heap.size wc wx))
              case first =>
                go_region_with (first
                  | (go_at_call 32
                     refine hT2.out.mono ?_
                     rintro e wa ⟨ga, rfl, ra, ba, _, _⟩
                     have xa := Lib.hid ra
                     have ua := Lib.hid (show Below wc.heap.size wc wa from ⟨ba.os, ba.tape, ba.output, ba.size, ba.block⟩)
                     have hd1 := rowIs_below xB3.out ua.out xB3.out.lt |>.cell (i := 0) (by omega)
                     have hd2 := rowIs_below xbS.out ua.out xbS.out.lt |>.cell (i := 0) (by omega)
                     have xRa := Lib.hid (rowIs_below xS.out ua.out xS.out.lt)
                     clear ra ba)
                  | (go_at_call 21
                     refine (eqPool_b _ _ n3 n3 n3 n3 l3 _ (row_votesB le3.out xRa.out) (row_votesB le3.out xa.out) hm3 hm3).mono ?_
                     rintro e wb ⟨rfl, bb⟩
                     have ub := Lib.hid (ua.out.trans (bb.mono ua.out.size))
                     clear bb))
                all_goals
                  go_wp2_with fail
                  go_meet
                  case rel => exact ⟨rfl, ub⟩
              case rest =>
                obtain ⟨rfl, k6⟩ := hcut
                have k7 := k6.out
                clear k6 hcB3 hcX3 hT2
                replace u := Lib.hid (u.out.trans (k7.mono u.out.size))
                replace sz := Lib.hid (Nat.le_trans sz.out k7.size)
                replace xB2 := Lib.hid (rowIs_below xB2.out k7 xB2.out.lt)
                replace xB3 := Lib.hid (rowIs_below xB3.out k7 xB3.out.lt)
                replace xP := Lib.hid (rowIs_below xP.out k7 xP.out.lt)
                replace xQ := Lib.hid (rowIs_below xQ.out k7 xQ.out.lt)
                replace xR := Lib.hid (rowIs_below xR.out k7 xR.out.lt)
                replace xbR := Lib.hid (rowIs_below xbR.out k7 xbR.out.lt)
                replace xS := Lib.hid (rowIs_below xS.out k7 xS.out.lt)
                replace xbS := Lib.hid (rowIs_below xbS.out k7 xbS.out.lt)
                clear k7
                go_wp2_with fail
                go_ret
                exact ⟨rfl, u.out⟩
        · skip
          have lf3 := Lib.hid (show (if (n3 : Int) ≤ 1048576 - (n0 : Int) - (n2 : Int) then 1048576 - (n0 : Int) - (n2 : Int) - (n3 : Int) else -1) = -1 from if_neg hz3)
          clear h0 h1 h2 h3
          go_enter Try.func11, Try.ntmps11
          have tk0 : True := trivial
          go_wp2_with (first
            | (clear tk0; go_at_call 14; refine (szBlk_g _ n0 _ (1048576) _ hn0 (by omega) (by omega)).mono ?_; rintro e w' ⟨rfl, rfl⟩; rw [lf0.out]; have tk1 : True := trivial)
            | (clear tk1; go_at_call 30; refine (szPool_g _ n2 _ (1048576 - (n0 : Int)) _ hn2 (by omega) (by omega)).mono ?_; rintro e w2z ⟨rfl, bz⟩; rw [lf2.out]; replace u := Lib.hid (u.out.trans (bz.mono u.out.size)); replace sz := Lib.hid (Nat.le_trans sz.out bz.size); replace xB2 := Lib.hid (rowIs_below xB2.out bz xB2.out.lt); replace xB3 := Lib.hid (rowIs_below xB3.out bz xB3.out.lt); clear bz hcB2 hcB3; have hcB2 := xB2.out.cell (i := 0) (by omega); have hcB3 := xB3.out.cell (i := 0) (by omega); have tk2 : True := trivial)
            | (clear tk2; go_at_call 30; refine (szPool_g _ n3 _ (1048576 - (n0 : Int) - (n2 : Int)) _ hn3 (by omega) (by omega)).mono ?_; rintro e w3z ⟨rfl, bz⟩; rw [lf3.out]; replace u := Lib.hid (u.out.trans (bz.mono u.out.size)); replace sz := Lib.hid (Nat.le_trans sz.out bz.size); replace xB2 := Lib.hid (rowIs_below xB2.out bz xB2.out.lt); replace xB3 := Lib.hid (rowIs_below xB3.out bz xB3.out.lt); clear bz hcB2 hcB3; have hcB2 := xB2.out.cell (i := 0) (by omega); have hcB3 := xB3.out.cell (i := 0) (by omega); have tk3 : True := trivial))
          go_ret
          exact ⟨rfl, u.out⟩
      · skip
        have lf2 := Lib.hid (show (if (n2 : Int) ≤ 1048576 - (n0 : Int) then 1048576 - (n0 : Int) - (n2 : Int) else -1) = -1 from if_neg hz2)
        clear h0 h1 h2 h3
        go_enter Try.func11, Try.ntmps11
        have tk0 : True := trivial
        go_wp2_with (first
          | (clear tk0; go_at_call 14; refine (szBlk_g _ n0 _ (1048576) _ hn0 (by omega) (by omega)).mono ?_; rintro e w' ⟨rfl, rfl⟩; rw [lf0.out]; have tk1 : True := trivial)
          | (clear tk1; go_at_call 30; refine (szPool_g _ n2 _ (1048576 - (n0 : Int)) _ hn2 (by omega) (by omega)).mono ?_; rintro e w2z ⟨rfl, bz⟩; rw [lf2.out]; replace u := Lib.hid (u.out.trans (bz.mono u.out.size)); replace sz := Lib.hid (Nat.le_trans sz.out bz.size); replace xB2 := Lib.hid (rowIs_below xB2.out bz xB2.out.lt); replace xB3 := Lib.hid (rowIs_below xB3.out bz xB3.out.lt); clear bz hcB2 hcB3; have hcB2 := xB2.out.cell (i := 0) (by omega); have hcB3 := xB3.out.cell (i := 0) (by omega); have tk2 : True := trivial))
        go_ret
        exact ⟨rfl, u.out⟩
    · skip
      have lf0 := Lib.hid (show (if (n0 : Int) ≤ 1048576 then 1048576 - (n0 : Int) else -1) = -1 from if_neg hz0)
      clear h0 h1 h2 h3
      go_enter Try.func11, Try.ntmps11
      have tk0 : True := trivial
      go_wp2_with (first
        | (clear tk0; go_at_call 14; refine (szBlk_g _ n0 _ (1048576) _ hn0 (by omega) (by omega)).mono ?_; rintro e w' ⟨rfl, rfl⟩; rw [lf0.out]; have tk1 : True := trivial))
      go_ret
      exact ⟨rfl, u.out⟩
  · skip
    have hgt : (1048576 : Int) < (n1 : Int) := by omega
    clear h0 h1 h2 h3
    go_enter Try.func11, Try.ntmps11
    go_wp2_with fail
    go_ret
    exact ⟨rfl, u.out⟩
end Go.Proofs.Ytlobjfipefibaaa
