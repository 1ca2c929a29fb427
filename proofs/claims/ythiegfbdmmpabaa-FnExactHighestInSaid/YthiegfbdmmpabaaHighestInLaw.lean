/- What is proved here: the law on HighestIn returns true at every argument, and writes nothing that was there. No conditions. -/
import Derived.Test.YthiegfbdmmpabaaHighImpl
import Derived.Test.YthiegfbdmmpabaaPoolRes
import Derived.Test.YthiegfbdmmpabaaOpenVotes
import Derived.Test.YthiegfbdmmpabaaLinks
import Derived.Deep.Cut
import Derived.Deep.CutRange
import Derived.Deep.RegionHeld3
namespace Go.Proofs.Ythiegfbdmmpabaa
open Go.RowKit

set_option maxRecDepth 100000 in
set_option maxHeartbeats 3200000 in
theorem lawHighestIn (A0 : Option Addr) (n0 c0 : Nat) (l0 : List Blk) (A1 : Option Addr) (n1 c1 : Nat) (l1 : List Int) (A2 : Option Addr) (n2 c2 : Nat) (l2 : List Vt) (w : World) (h0 : BlksAt w w.heap.size A0 n0 l0) (hn0 : n0 ≤ 140737488351232) (h1 : IntsAt w w.heap.size A1 n1 l1) (hn1 : n1 ≤ 140737488351232) (h2 : VotesAt w w.heap.size A2 n2 l2) (hn2 : n2 ≤ 9223372036854775807) :
    Calls Try.prog 8 #[.slice A0 n0 c0, .slice A1 n1 c1, .slice A2 n2 c2] w fun e w' => e = .returned (.bool true) ∧ Below w.heap.size w w' := by
  have u := Lib.hid (Below.refl w.heap.size w)
  have sz := Lib.hid (Nat.le_refl w.heap.size)
  by_cases hm1 : n1 ≤ 1048576
  · skip
    by_cases hz0 : (n0 : Int) ≤ 1048576
    · skip
      have hm0 : n0 ≤ 1048576 := by omega
      have lf0 := Lib.hid (show (if (n0 : Int) ≤ 1048576 then 1048576 - (n0 : Int) else -1) = 1048576 - (n0 : Int) from if_pos hz0)
      have lp0 : ¬ (1048576 - (n0 : Int) < 0) := by omega
      by_cases hz2 : (n2 : Int) ≤ 1048576 - (n0 : Int)
      · skip
        have hm2 : n2 ≤ 1048576 := by omega
        have lf2 := Lib.hid (show (if (n2 : Int) ≤ 1048576 - (n0 : Int) then 1048576 - (n0 : Int) - (n2 : Int) else -1) = 1048576 - (n0 : Int) - (n2 : Int) from if_pos hz2)
        have lp2 : ¬ (1048576 - (n0 : Int) - (n2 : Int) < 0) := by omega
        have le0 := Lib.hid h0.1; have ha0 := Lib.hid h0
        have le1 := Lib.hid h1.1; have ha1 := Lib.hid h1
        have le2 := Lib.hid h2.1; have ha2 := Lib.hid h2
        clear h0 h1 h2 hz0 hz2
        have hq0 : (highR l0 l1 l2 != highR l0 l1 l2) = false := by simp
        have hq1 : (linksOk l0 l1 l2 != linksOk l0 l1 l2) = false := by simp
        go_enter Try.func8, Try.ntmps8
        have tk0 : True := trivial
        go_upto_region 10 with (first
          | (clear tk0; go_at_call 14; refine (szBlk_g _ n0 _ (1048576) _ hn0 (by omega) (by omega)).mono ?_; rintro e w' ⟨rfl, rfl⟩; rw [lf0.out]; have tk1 : True := trivial)
          | (clear tk1; go_at_call 15; refine (szLink_g _ n2 _ (1048576 - (n0 : Int)) _ hn2 (by omega) (by omega)).mono ?_; rintro e w' ⟨rfl, rfl⟩; rw [lf2.out]; have tk2 : True := trivial))
        clear tk2
        have hT := Lib.hid (toBlk_g A0 n0 c0 l0 w (show BlksAt w w.heap.size A0 n0 l0 from ⟨(ha0.out.up u.out).1, (ha0.out.up u.out).2⟩) hm0)
        go_cut [8, 9] from 28 to 37 (fun s t wx => s = .int .i64 (highR l0 l1 l2) ∧ t = .bool (linksOk l0 l1 l2) ∧ Hid (Below w.heap.size w wx))
        case first =>
          have tk0 : True := trivial
          go_wp2_with (first
            | (clear tk0
               go_at_call 17
               refine hT.out.mono ?_
               rintro e wy0 ⟨gy0, rfl, ry, by0, _, _⟩
               have by_ := by0
               have y0 := Lib.hid ry
               have ua0 := Lib.hid (show Below w.heap.size w wy0 from ⟨by_.os, by_.tape, by_.output, by_.size, by_.block⟩)
               clear ry by_ by0
               have tk1 : True := trivial)
            | (clear tk1
               go_at_call 18
               refine (toInt_g A1 n1 c1 l1 _ (ha1.out.up' (u.out.trans (ua0.out.mono u.out.size))) hm1).mono ?_
               rintro e wy1 ⟨gy1, rfl, ry, by0, _, _⟩
               have by_ := by0
               have y1 := Lib.hid ry
               replace y0 := Lib.hid (rowIs_below y0.out by_ y0.out.lt)
               have ua1 := Lib.hid (ua0.out.trans (by_.mono ua0.out.size))
               clear ry by_ by0
               have tk2 : True := trivial)
            | (clear tk2
               go_at_call 19
               refine (toLinks_g A2 n2 c2 l2 _ (ha2.out.up (u.out.trans (ua1.out.mono u.out.size))) hm2).mono ?_
               rintro e wy2 ⟨gy2, rfl, ry, by0, _, _⟩
               have by_ := by0
               have y2 := Lib.hid ry
               replace y0 := Lib.hid (rowIs_below y0.out by_ y0.out.lt)
               replace y1 := Lib.hid (rowIs_below y1.out by_ y1.out.lt)
               have ua2 := Lib.hid (ua1.out.trans (by_.mono ua1.out.size))
               clear ry by_ by0
               have tk3 : True := trivial)
            | (clear tk3
               go_at_call 36
               refine (specHighest_any _ n0 _ l0 _ n1 _ l1 _ n2 _ l2 _ (row_blks' le0.out y0.out) (row_ints le1.out y1.out) (row_linksB le2.out y2.out) hm0 hm1 hm2).mono ?_
               rintro e we ⟨rfl, be⟩
               have ue := Lib.hid (ua2.out.trans (be.mono ua2.out.size))
               clear be))
          all_goals
            go_wp2_with fail
            go_meet
            case rel => exact ⟨rfl, rfl, ue⟩
        case rest =>
          obtain ⟨rfl, rfl, k5⟩ := hcut
          skip
          clear hT
          have k6 := k5.out
          clear k5
          replace u := Lib.hid (u.out.trans (k6.mono u.out.size))
          replace sz := Lib.hid (Nat.le_trans sz.out k6.size)
          clear k6
          go_wp2_with fail
          refine (toBlk_g A0 n0 c0 l0 _ (ha0.out.up u.out) hm0).mono ?_
          rintro e w6 ⟨gP, rfl, rP, b6, dP, fP⟩
          have xP := Lib.hid rP; clear rP
          have lo_xP := Lib.hid (Nat.le_trans sz.out dP); have hi_xP := Lib.hid fP; clear dP fP
          replace u := Lib.hid (u.out.trans (b6.mono u.out.size))
          replace sz := Lib.hid (Nat.le_trans sz.out b6.size)
          clear b6
          clear sz
          have sz := Lib.hid (Nat.le_refl w6.heap.size)
          go_wp2_with fail
          refine (toInt_g A1 n1 c1 l1 _ (ha1.out.up' u.out) hm1).mono ?_
          rintro e w7 ⟨gQ, rfl, rQ, b7, dQ, fQ⟩
          have xQ := Lib.hid rQ; clear rQ
          have lo_xQ := Lib.hid (Nat.le_trans sz.out dQ); have hi_xQ := Lib.hid fQ; clear dQ fQ
          replace u := Lib.hid (u.out.trans (b7.mono u.out.size))
          replace sz := Lib.hid (Nat.le_trans sz.out b7.size)
          replace xP := Lib.hid (rowIs_below xP.out b7 xP.out.lt)
          clear b7
          clear sz
          have sz := Lib.hid (Nat.le_refl w7.heap.size)
          go_wp2_with fail
          refine (toLinks_g A2 n2 c2 l2 _ (ha2.out.up u.out) hm2).mono ?_
          rintro e w8 ⟨gR, rfl, rR, b8, dR, fR⟩
          have xR := Lib.hid rR; clear rR
          have lo_xR := Lib.hid (Nat.le_trans sz.out dR); have hi_xR := Lib.hid fR; clear dR fR
          replace u := Lib.hid (u.out.trans (b8.mono u.out.size))
          replace sz := Lib.hid (Nat.le_trans sz.out b8.size)
          replace xP := Lib.hid (rowIs_below xP.out b8 xP.out.lt)
          replace xQ := Lib.hid (rowIs_below xQ.out b8 xQ.out.lt)
          clear b8
          clear sz
          have sz := Lib.hid (Nat.le_refl w8.heap.size)
          go_wp2_with fail
          refine (implHighest_any _ n0 _ l0 _ n1 _ l1 _ n2 _ l2 _ (row_blks' le0.out xP.out) (row_ints le1.out xQ.out) (row_linksB le2.out xR.out) hm0 hm1 hm2).mono ?_
          rintro e w9 ⟨rfl, b9⟩
          replace u := Lib.hid (u.out.trans (b9.mono u.out.size))
          replace sz := Lib.hid (Nat.le_trans sz.out b9.size)
          replace xP := Lib.hid (rowIs_below xP.out b9 xP.out.lt)
          replace xQ := Lib.hid (rowIs_below xQ.out b9 xQ.out.lt)
          replace xR := Lib.hid (rowIs_below xR.out b9 xR.out.lt)
          clear b9
          go_wp2_with fail
          refine (toBlk_g A0 n0 c0 l0 _ (ha0.out.up u.out) hm0).mono ?_
          rintro e w10 ⟨gZ, rfl, rZ, b10, _, _⟩
          have xZ := Lib.hid rZ; clear rZ
          replace u := Lib.hid (u.out.trans (b10.mono u.out.size))
          replace sz := Lib.hid (Nat.le_trans sz.out b10.size)
          replace xP := Lib.hid (rowIs_below xP.out b10 xP.out.lt)
          replace xQ := Lib.hid (rowIs_below xQ.out b10 xQ.out.lt)
          replace xR := Lib.hid (rowIs_below xR.out b10 xR.out.lt)
          clear b10
          go_wp2_with fail
          refine (eqBlk_b _ _ n0 n0 _ _ l0 _ (row_blks' le0.out xP.out) (row_blks' le0.out xZ.out) hm0 hm0).mono ?_
          rintro e w11 ⟨rfl, b11⟩
          replace u := Lib.hid (u.out.trans (b11.mono u.out.size))
          replace sz := Lib.hid (Nat.le_trans sz.out b11.size)
          replace xP := Lib.hid (rowIs_below xP.out b11 xP.out.lt)
          replace xQ := Lib.hid (rowIs_below xQ.out b11 xQ.out.lt)
          replace xR := Lib.hid (rowIs_below xR.out b11 xR.out.lt)
          replace xZ := Lib.hid (rowIs_below xZ.out b11 xZ.out.lt)
          clear b11
          clear xZ
          go_wp2_with fail
          refine (toInt_g A1 n1 c1 l1 _ (ha1.out.up' u.out) hm1).mono ?_
          rintro e w12 ⟨gZ, rfl, rZ, b12, _, _⟩
          have xZ := Lib.hid rZ; clear rZ
          replace u := Lib.hid (u.out.trans (b12.mono u.out.size))
          replace sz := Lib.hid (Nat.le_trans sz.out b12.size)
          replace xP := Lib.hid (rowIs_below xP.out b12 xP.out.lt)
          replace xQ := Lib.hid (rowIs_below xQ.out b12 xQ.out.lt)
          replace xR := Lib.hid (rowIs_below xR.out b12 xR.out.lt)
          clear b12
          go_wp2_with fail
          refine (eqInt_b _ _ n1 n1 _ _ l1 _ (row_ints le1.out xQ.out) (row_ints le1.out xZ.out) hm1 hm1).mono ?_
          rintro e w13 ⟨rfl, b13⟩
          replace u := Lib.hid (u.out.trans (b13.mono u.out.size))
          replace sz := Lib.hid (Nat.le_trans sz.out b13.size)
          replace xP := Lib.hid (rowIs_below xP.out b13 xP.out.lt)
          replace xQ := Lib.hid (rowIs_below xQ.out b13 xQ.out.lt)
          replace xR := Lib.hid (rowIs_below xR.out b13 xR.out.lt)
          replace xZ := Lib.hid (rowIs_below xZ.out b13 xZ.out.lt)
          clear b13
          clear xZ
          go_wp2_with fail
          refine (toLinks_g A2 n2 c2 l2 _ (ha2.out.up u.out) hm2).mono ?_
          rintro e w14 ⟨gZ, rfl, rZ, b14, _, _⟩
          have xZ := Lib.hid rZ; clear rZ
          replace u := Lib.hid (u.out.trans (b14.mono u.out.size))
          replace sz := Lib.hid (Nat.le_trans sz.out b14.size)
          replace xP := Lib.hid (rowIs_below xP.out b14 xP.out.lt)
          replace xQ := Lib.hid (rowIs_below xQ.out b14 xQ.out.lt)
          replace xR := Lib.hid (rowIs_below xR.out b14 xR.out.lt)
          clear b14
          go_wp2_with fail
          refine (eqLinkS_b _ _ n2 n2 _ _ l2 _ (row_linksB le2.out xR.out) (row_linksB le2.out xZ.out) hm2 hm2).mono ?_
          rintro e w15 ⟨rfl, b15⟩
          replace u := Lib.hid (u.out.trans (b15.mono u.out.size))
          replace sz := Lib.hid (Nat.le_trans sz.out b15.size)
          replace xP := Lib.hid (rowIs_below xP.out b15 xP.out.lt)
          replace xQ := Lib.hid (rowIs_below xQ.out b15 xQ.out.lt)
          replace xR := Lib.hid (rowIs_below xR.out b15 xR.out.lt)
          replace xZ := Lib.hid (rowIs_below xZ.out b15 xZ.out.lt)
          clear b15
          clear xZ
          go_wp2_with fail
          go_ret
          exact ⟨rfl, u.out⟩
      · skip
        have lf2 := Lib.hid (show (if (n2 : Int) ≤ 1048576 - (n0 : Int) then 1048576 - (n0 : Int) - (n2 : Int) else -1) = -1 from if_neg hz2)
        clear h0 h1 h2
        go_enter Try.func8, Try.ntmps8
        have tk0 : True := trivial
        go_wp2_with (first
          | (clear tk0; go_at_call 14; refine (szBlk_g _ n0 _ (1048576) _ hn0 (by omega) (by omega)).mono ?_; rintro e w' ⟨rfl, rfl⟩; rw [lf0.out]; have tk1 : True := trivial)
          | (clear tk1; go_at_call 15; refine (szLink_g _ n2 _ (1048576 - (n0 : Int)) _ hn2 (by omega) (by omega)).mono ?_; rintro e w' ⟨rfl, rfl⟩; rw [lf2.out]; have tk2 : True := trivial))
        go_ret
        exact ⟨rfl, u.out⟩
    · skip
      have lf0 := Lib.hid (show (if (n0 : Int) ≤ 1048576 then 1048576 - (n0 : Int) else -1) = -1 from if_neg hz0)
      clear h0 h1 h2
      go_enter Try.func8, Try.ntmps8
      have tk0 : True := trivial
      go_wp2_with (first
        | (clear tk0; go_at_call 14; refine (szBlk_g _ n0 _ (1048576) _ hn0 (by omega) (by omega)).mono ?_; rintro e w' ⟨rfl, rfl⟩; rw [lf0.out]; have tk1 : True := trivial))
      go_ret
      exact ⟨rfl, u.out⟩
  · skip
    have hgt : (1048576 : Int) < (n1 : Int) := by omega
    clear h0 h1 h2
    go_enter Try.func8, Try.ntmps8
    go_wp2_with fail
    go_ret
    exact ⟨rfl, u.out⟩
end Go.Proofs.Ythiegfbdmmpabaa
