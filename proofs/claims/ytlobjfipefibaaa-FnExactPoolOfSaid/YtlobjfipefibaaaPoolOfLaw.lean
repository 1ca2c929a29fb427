/- What is proved here: the law on PoolOf returns true at every argument, and writes nothing that was there. No conditions. -/
import Derived.Test.YtlobjfipefibaaaPoolImpl
import Derived.Test.YtlobjfipefibaaaPoolBox
import Derived.Test.YtlobjfipefibaaaOpenVotes
import Derived.Deep.Cut
import Derived.Deep.CutRange
import Derived.Deep.RegionHeld3
namespace Go.Proofs.Ytlobjfipefibaaa
open Go.RowKit

set_option maxRecDepth 100000 in
set_option maxHeartbeats 32000000 in
theorem lawPoolOf (A0 : Option Addr) (n0 c0 : Nat) (l0 : List Blk) (A1 : Option Addr) (n1 c1 : Nat) (l1 : List Int) (A2 : Option Addr) (n2 c2 : Nat) (l2 : List Vt) (w : World) (h0 : BlksAt w w.heap.size A0 n0 l0) (hn0 : n0 ≤ 140737488351232) (h1 : IntsAt w w.heap.size A1 n1 l1) (hn1 : n1 ≤ 140737488351232) (h2 : VotesAt w w.heap.size A2 n2 l2) (hn2 : n2 ≤ 9223372036854775807) :
    Calls Try.prog 3 #[.slice A0 n0 c0, .slice A1 n1 c1, .slice A2 n2 c2] w fun e w' => e = .returned (.bool true) ∧ Below w.heap.size w w' := by
  have u := Lib.hid (Below.refl w.heap.size w)
  have sz := Lib.hid (Nat.le_refl w.heap.size)
  by_cases hm1 : n1 ≤ 1048576
  · skip
    by_cases hz0 : (n0 : Int) ≤ 1048576
    · skip
      have hm0 : n0 ≤ 1048576 := by omega
      have lf0 := Lib.hid (show (if (n0 : Int) ≤ 1048576 then 1048576 - (n0 : Int) else -1) = 1048576 - (n0 : Int) from if_pos hz0)
      have lp0 : ¬ (1048576 - (n0 : Int) < 0) := by omega
      by_cases hz2 : (n2 : Int) ≤ 1048576 - (n0 : Int)
      · skip
        have hm2 : n2 ≤ 1048576 := by omega
        have lf2 := Lib.hid (show (if (n2 : Int) ≤ 1048576 - (n0 : Int) then 1048576 - (n0 : Int) - (n2 : Int) else -1) = 1048576 - (n0 : Int) - (n2 : Int) from if_pos hz2)
        have lp2 : ¬ (1048576 - (n0 : Int) - (n2 : Int) < 0) := by omega
        have le0 := Lib.hid h0.1; have ha0 := Lib.hid h0
        have le1 := Lib.hid h1.1; have ha1 := Lib.hid h1
        have le2 := Lib.hid h2.1; have ha2 := Lib.hid h2
        clear h0 h1 h2 hz0 hz2
        have hq1 : (pofOK l0 l1 l2 != pofOK l0 l1 l2) = false := by simp
        have hlen := Lib.hid (pofR_len l0 l1 l2)
        go_enter Try.func3, Try.ntmps3
        have tk0 : True := trivial
        go_upto_region 10 with (first
          | (clear tk0; go_at_call 14; refine (szBlk_g _ n0 _ (1048576) _ hn0 (by omega) (by omega)).mono ?_; rintro e w' ⟨rfl, rfl⟩; rw [lf0.out]; have tk1 : True := trivial)
          | (clear tk1; go_at_call 15; refine (szVote_g _ n2 _ (1048576 - (n0 : Int)) _ hn2 (by omega) (by omega)).mono ?_; rintro e w' ⟨rfl, rfl⟩; rw [lf2.out]; have tk2 : True := trivial))
        clear tk2
        have hT := Lib.hid (toBlk_g A0 n0 c0 l0 w (show BlksAt w w.heap.size A0 n0 l0 from ⟨(ha0.out.up u.out).1, (ha0.out.up u.out).2⟩) hm0)
        go_cut [8, 9] from 33 to 42 (fun s t wx => ∃ AX nX cX pX, s = .pointer (some ⟨pX, 0, none⟩) ∧ t = .bool (pofOK l0 l1 l2) ∧ Hid (OwnV wx w.heap.size AX nX (pofR l0 l1 l2)) ∧ Hid (wx.rowIs pX 29 1 (fun _ => .slice AX nX cX)) ∧ Hid (w.heap.size ≤ pX) ∧ Hid (Below w.heap.size w wx))
        case first =>
          have tk0 : True := trivial
          go_wp2_with (first
            | (clear tk0
               go_at_call 17
               refine hT.out.mono ?_
               rintro e wy0 ⟨gy0, rfl, ry, by0, _, _⟩
               have by_ := by0
               have y0 := Lib.hid ry
               have ua0 := Lib.hid (show Below w.heap.size w wy0 from ⟨by_.os, by_.tape, by_.output, by_.size, by_.block⟩)
               clear ry by_ by0
               have tk1 : True := trivial)
            | (clear tk1
               go_at_call 18
               refine (toInt_g A1 n1 c1 l1 _ (ha1.out.up' (u.out.trans (ua0.out.mono u.out.size))) hm1).mono ?_
               rintro e wy1 ⟨gy1, rfl, ry, by0, _, _⟩
               have by_ := by0
               try replace zb := Lib.hid (rowIs_below zb.out by_ zb.out.lt)
               have y1 := Lib.hid ry
               replace y0 := Lib.hid (rowIs_below y0.out by_ y0.out.lt)
               have ua1 := Lib.hid (ua0.out.trans (by_.mono ua0.out.size))
               clear ry by_ by0
               have tk2 : True := trivial)
            | (clear tk2
               go_at_call 19
               refine (toVotes_g A2 n2 c2 l2 _ (ha2.out.up (u.out.trans (ua1.out.mono u.out.size))) hm2).mono ?_
               rintro e wy2 ⟨gy2, rfl, ry, by0, _, _⟩
               have by_ := by0
               try replace zb := Lib.hid (rowIs_below zb.out by_ zb.out.lt)
               have y2 := Lib.hid ry
               replace y0 := Lib.hid (rowIs_below y0.out by_ y0.out.lt)
               replace y1 := Lib.hid (rowIs_below y1.out by_ y1.out.lt)
               have ua2 := Lib.hid (ua1.out.trans (by_.mono ua1.out.size))
               clear ry by_ by0
               have tk3 : True := trivial)
            | (clear tk3
               go_at_call 16
               refine (specPoolOf_any _ n0 _ l0 _ n1 _ l1 _ n2 _ l2 _ (row_blks' le0.out y0.out) (row_ints le1.out y1.out) (row_votesB le2.out y2.out) hm0 hm1 hm2).mono ?_
               rintro e we ⟨AX, nX, cX, rfl, oe, be⟩
               try have gz := Lib.hid zb.out.lt
               try replace zb := Lib.hid (rowIs_below zb.out be zb.out.lt)
               try have hzb := zb.out.cell (i := 0) (by omega)
               try have hzf := zb.out.frozen 0
               have hB := Lib.hid ua2.out.size
               have ye := Lib.hid oe
               have ue := Lib.hid (ua2.out.trans (be.mono ua2.out.size))
               clear be oe))
          all_goals
            go_wp2_with fail
            go_meet
            case rel => first
              | exact ⟨_, _, _, _, rfl, rfl, Lib.hid ((ye.out.below (bx_below we _)).fewer hB.out), Lib.hid (bx_row we _ _), Lib.hid ue.out.size, Lib.hid (ue.out.trans ((bx_below we _).mono ue.out.size))⟩
              | exact ⟨_, _, _, _, rfl, rfl, Lib.hid ((ye.out.setBox gz.out _).fewer hB.out), Lib.hid ((zb.out.set 0 _).congr (fun i hi => by rw [if_pos (by omega)])), Lib.hid lz.out, Lib.hid (ue.out.setCell (p := ⟨_, 0, none⟩) lz.out _)⟩
        case rest =>
          obtain ⟨AM, nM, cM, gMB, rfl, rfl, yM, xgMB, lgMB, k5⟩ := hcut
          skip
          clear hT
          have k6 := k5.out
          clear k5
          have hnM : nM ≤ 100 := by rw [← yM.out.len]; exact hlen.out
          have lo_yM := Lib.hid (fun ad (e : AM = some ad) => Nat.le_trans sz.out (yM.out.low ad e).1)
          have mo_yM := Lib.hid (Nat.le_trans sz.out k6.size)
          have hi_yM := Lib.hid (fun ad (e : AM = some ad) => (yM.out.low ad e).2)
          have lo_xgMB := Lib.hid (Nat.le_trans sz.out lgMB.out)
          have hi_xgMB := Lib.hid xgMB.out.lt
          replace u := Lib.hid (u.out.trans (k6.mono u.out.size))
          replace sz := Lib.hid (Nat.le_trans sz.out k6.size)
          clear k6
          clear sz
          have sz := Lib.hid (Nat.le_refl wc.heap.size)
          go_wp2_with fail
          refine (toBlk_g A0 n0 c0 l0 _ (ha0.out.up u.out) hm0).mono ?_
          rintro e w6 ⟨gP, rfl, rP, b6, dP, fP⟩
          have xP := Lib.hid rP; clear rP
          have lo_xP := Lib.hid (Nat.le_trans sz.out dP); have hi_xP := Lib.hid fP; clear dP fP
          replace u := Lib.hid (u.out.trans (b6.mono u.out.size))
          replace sz := Lib.hid (Nat.le_trans sz.out b6.size)
          replace yM := Lib.hid (yM.out.below b6)
          replace xgMB := Lib.hid (rowIs_below xgMB.out b6 xgMB.out.lt)
          clear b6
          clear sz
          have sz := Lib.hid (Nat.le_refl w6.heap.size)
          go_wp2_with fail
          refine (toInt_g A1 n1 c1 l1 _ (ha1.out.up' u.out) hm1).mono ?_
          rintro e w7 ⟨gQ, rfl, rQ, b7, dQ, fQ⟩
          have xQ := Lib.hid rQ; clear rQ
          have lo_xQ := Lib.hid (Nat.le_trans sz.out dQ); have hi_xQ := Lib.hid fQ; clear dQ fQ
          replace u := Lib.hid (u.out.trans (b7.mono u.out.size))
          replace sz := Lib.hid (Nat.le_trans sz.out b7.size)
          replace yM := Lib.hid (yM.out.below b7)
          replace xgMB := Lib.hid (rowIs_below xgMB.out b7 xgMB.out.lt)
          replace xP := Lib.hid (rowIs_below xP.out b7 xP.out.lt)
          clear b7
          clear sz
          have sz := Lib.hid (Nat.le_refl w7.heap.size)
          go_wp2_with fail
          refine (toVotes_g A2 n2 c2 l2 _ (ha2.out.up u.out) hm2).mono ?_
          rintro e w8 ⟨gR, rfl, rR, b8, dR, fR⟩
          have xR := Lib.hid rR; clear rR
          have lo_xR := Lib.hid (Nat.le_trans sz.out dR); have hi_xR := Lib.hid fR; clear dR fR
          replace u := Lib.hid (u.out.trans (b8.mono u.out.size))
          replace sz := Lib.hid (Nat.le_trans sz.out b8.size)
          replace yM := Lib.hid (yM.out.below b8)
          replace xgMB := Lib.hid (rowIs_below xgMB.out b8 xgMB.out.lt)
          replace xP := Lib.hid (rowIs_below xP.out b8 xP.out.lt)
          replace xQ := Lib.hid (rowIs_below xQ.out b8 xQ.out.lt)
          clear b8
          clear sz
          have sz := Lib.hid (Nat.le_refl w8.heap.size)
          go_wp2_with fail
          refine (implPoolOf_any _ n0 _ l0 _ n1 _ l1 _ n2 _ l2 _ (row_blks' le0.out xP.out) (row_ints le1.out xQ.out) (row_votesB le2.out xR.out) hm0 hm1 hm2).mono ?_
          rintro e w9 ⟨AP, nP, cP, rfl, oP, b9⟩
          have hnP : nP ≤ 100 := by rw [← oP.len]; exact hlen.out
          have lo_yP := Lib.hid (fun ad (e : AP = some ad) => Nat.le_trans sz.out (oP.low ad e).1)
          have hi_yP := Lib.hid (fun ad (e : AP = some ad) => (oP.low ad e).2)
          have mo_yP := Lib.hid (Nat.le_trans sz.out b9.size)
          have yP := Lib.hid oP; clear oP
          replace u := Lib.hid (u.out.trans (b9.mono u.out.size))
          replace sz := Lib.hid (Nat.le_trans sz.out b9.size)
          replace yM := Lib.hid (yM.out.below b9)
          replace xgMB := Lib.hid (rowIs_below xgMB.out b9 xgMB.out.lt)
          replace xP := Lib.hid (rowIs_below xP.out b9 xP.out.lt)
          replace xQ := Lib.hid (rowIs_below xQ.out b9 xQ.out.lt)
          replace xR := Lib.hid (rowIs_below xR.out b9 xR.out.lt)
          clear b9
          clear sz
          have sz := Lib.hid (Nat.le_refl w9.heap.size)
          have xgPB := Lib.hid (bx_row w9 (.slice AP nP cP) 29)
          have kk : Below w9.heap.size w9 (w9.alloc (.cells #[.slice AP nP cP] 29)) := bx_below w9 _
          have lo_xgPB := Lib.hid (Nat.le_refl w9.heap.size); have hi_xgPB := Lib.hid (Nat.lt_succ_self w9.heap.size)
          replace u := Lib.hid (u.out.trans (kk.mono u.out.size))
          replace sz := Lib.hid (Nat.le_trans sz.out kk.size)
          replace yM := Lib.hid (yM.out.below kk)
          replace xgMB := Lib.hid (rowIs_below xgMB.out kk xgMB.out.lt)
          replace xP := Lib.hid (rowIs_below xP.out kk xP.out.lt)
          replace xQ := Lib.hid (rowIs_below xQ.out kk xQ.out.lt)
          replace xR := Lib.hid (rowIs_below xR.out kk xR.out.lt)
          replace yP := Lib.hid (yP.out.below kk)
          clear kk
          clear sz
          have sz := Lib.hid (show w9.heap.size + 1 ≤ (w9.alloc (.cells #[.slice AP nP cP] 29)).heap.size by simp)
          have hrgPB := xgPB.out.cell (i := 0) (by omega)
          have hrgMB := xgMB.out.cell (i := 0) (by omega)
          go_wp2_with fail
          refine (eqPool_b AP AM nP nM cP cM _ _ yP.out.votes yM.out.votes (by omega) (by omega)).mono ?_
          rintro e w10 ⟨rfl, b10⟩
          clear hrgPB hrgMB
          replace u := Lib.hid (u.out.trans (b10.mono u.out.size))
          replace sz := Lib.hid (Nat.le_trans sz.out b10.size)
          replace yM := Lib.hid (yM.out.below b10)
          replace xgMB := Lib.hid (rowIs_below xgMB.out b10 xgMB.out.lt)
          replace xP := Lib.hid (rowIs_below xP.out b10 xP.out.lt)
          replace xQ := Lib.hid (rowIs_below xQ.out b10 xQ.out.lt)
          replace xR := Lib.hid (rowIs_below xR.out b10 xR.out.lt)
          replace yP := Lib.hid (yP.out.below b10)
          replace xgPB := Lib.hid (rowIs_below xgPB.out b10 xgPB.out.lt)
          clear b10
          go_wp2_with fail
          refine (toBlk_g A0 n0 c0 l0 _ (ha0.out.up u.out) hm0).mono ?_
          rintro e w11 ⟨gZ, rfl, rZ, b11, _, _⟩
          have xZ := Lib.hid rZ; clear rZ
          replace u := Lib.hid (u.out.trans (b11.mono u.out.size))
          replace sz := Lib.hid (Nat.le_trans sz.out b11.size)
          replace yM := Lib.hid (yM.out.below b11)
          replace xgMB := Lib.hid (rowIs_below xgMB.out b11 xgMB.out.lt)
          replace xP := Lib.hid (rowIs_below xP.out b11 xP.out.lt)
          replace xQ := Lib.hid (rowIs_below xQ.out b11 xQ.out.lt)
          replace xR := Lib.hid (rowIs_below xR.out b11 xR.out.lt)
          replace yP := Lib.hid (yP.out.below b11)
          replace xgPB := Lib.hid (rowIs_below xgPB.out b11 xgPB.out.lt)
          clear b11
          go_wp2_with fail
          refine (eqBlk_b _ _ n0 n0 _ _ l0 _ (row_blks' le0.out xP.out) (row_blks' le0.out xZ.out) hm0 hm0).mono ?_
          rintro e w12 ⟨rfl, b12⟩
          replace u := Lib.hid (u.out.trans (b12.mono u.out.size))
          replace sz := Lib.hid (Nat.le_trans sz.out b12.size)
          replace yM := Lib.hid (yM.out.below b12)
          replace xgMB := Lib.hid (rowIs_below xgMB.out b12 xgMB.out.lt)
          replace xP := Lib.hid (rowIs_below xP.out b12 xP.out.lt)
          replace xQ := Lib.hid (rowIs_below xQ.out b12 xQ.out.lt)
          replace xR := Lib.hid (rowIs_below xR.out b12 xR.out.lt)
          replace yP := Lib.hid (yP.out.below b12)
          replace xgPB := Lib.hid (rowIs_below xgPB.out b12 xgPB.out.lt)
          replace xZ := Lib.hid (rowIs_below xZ.out b12 xZ.out.lt)
          clear b12
          clear xZ
          go_wp2_with fail
          refine (toInt_g A1 n1 c1 l1 _ (ha1.out.up' u.out) hm1).mono ?_
          rintro e w13 ⟨gZ, rfl, rZ, b13, _, _⟩
          have xZ := Lib.hid rZ; clear rZ
          replace u := Lib.hid (u.out.trans (b13.mono u.out.size))
          replace sz := Lib.hid (Nat.le_trans sz.out b13.size)
          replace yM := Lib.hid (yM.out.below b13)
          replace xgMB := Lib.hid (rowIs_below xgMB.out b13 xgMB.out.lt)
          replace xP := Lib.hid (rowIs_below xP.out b13 xP.out.lt)
          replace xQ := Lib.hid (rowIs_below xQ.out b13 xQ.out.lt)
          replace xR := Lib.hid (rowIs_below xR.out b13 xR.out.lt)
          replace yP := Lib.hid (yP.out.below b13)
          replace xgPB := Lib.hid (rowIs_below xgPB.out b13 xgPB.out.lt)
          clear b13
          go_wp2_with fail
          refine (eqInt_b _ _ n1 n1 _ _ l1 _ (row_ints le1.out xQ.out) (row_ints le1.out xZ.out) hm1 hm1).mono ?_
          rintro e w14 ⟨rfl, b14⟩
          replace u := Lib.hid (u.out.trans (b14.mono u.out.size))
          replace sz := Lib.hid (Nat.le_trans sz.out b14.size)
          replace yM := Lib.hid (yM.out.below b14)
          replace xgMB := Lib.hid (rowIs_below xgMB.out b14 xgMB.out.lt)
          replace xP := Lib.hid (rowIs_below xP.out b14 xP.out.lt)
          replace xQ := Lib.hid (rowIs_below xQ.out b14 xQ.out.lt)
          replace xR := Lib.hid (rowIs_below xR.out b14 xR.out.lt)
          replace yP := Lib.hid (yP.out.below b14)
          replace xgPB := Lib.hid (rowIs_below xgPB.out b14 xgPB.out.lt)
          replace xZ := Lib.hid (rowIs_below xZ.out b14 xZ.out.lt)
          clear b14
          clear xZ
          go_wp2_with fail
          refine (toVotes_g A2 n2 c2 l2 _ (ha2.out.up u.out) hm2).mono ?_
          rintro e w15 ⟨gZ, rfl, rZ, b15, _, _⟩
          have xZ := Lib.hid rZ; clear rZ
          replace u := Lib.hid (u.out.trans (b15.mono u.out.size))
          replace sz := Lib.hid (Nat.le_trans sz.out b15.size)
          replace yM := Lib.hid (yM.out.below b15)
          replace xgMB := Lib.hid (rowIs_below xgMB.out b15 xgMB.out.lt)
          replace xP := Lib.hid (rowIs_below xP.out b15 xP.out.lt)
          replace xQ := Lib.hid (rowIs_below xQ.out b15 xQ.out.lt)
          replace xR := Lib.hid (rowIs_below xR.out b15 xR.out.lt)
          replace yP := Lib.hid (yP.out.below b15)
          replace xgPB := Lib.hid (rowIs_below xgPB.out b15 xgPB.out.lt)
          clear b15
          go_wp2_with fail
          refine (eqVoteS_b _ _ n2 n2 _ _ l2 _ (row_votesB le2.out xR.out) (row_votesB le2.out xZ.out) hm2 hm2).mono ?_
          rintro e w16 ⟨rfl, b16⟩
          replace u := Lib.hid (u.out.trans (b16.mono u.out.size))
          replace sz := Lib.hid (Nat.le_trans sz.out b16.size)
          replace yM := Lib.hid (yM.out.below b16)
          replace xgMB := Lib.hid (rowIs_below xgMB.out b16 xgMB.out.lt)
          replace xP := Lib.hid (rowIs_below xP.out b16 xP.out.lt)
          replace xQ := Lib.hid (rowIs_below xQ.out b16 xQ.out.lt)
          replace xR := Lib.hid (rowIs_below xR.out b16 xR.out.lt)
          replace yP := Lib.hid (yP.out.below b16)
          replace xgPB := Lib.hid (rowIs_below xgPB.out b16 xgPB.out.lt)
          replace xZ := Lib.hid (rowIs_below xZ.out b16 xZ.out.lt)
          clear b16
          clear xZ
          go_wp2_with fail
          refine (markBlk_b gP n0 _ _ (1) _ xP.out hm0 (by omega) (by omega)).mono ?_
          rintro e w17 ⟨rfl, oo⟩
          have ok_ := oo.o
          clear oo
          replace u := Lib.hid (u.out.trans (ok_.below u.out.size (fun ad e => by cases e; have := lo_xP.out; have := hi_xP.out; have := mo_yM.out; show w.heap.size ≤ gP; omega)))
          replace sz := Lib.hid (Nat.le_trans sz.out ok_.size)
          replace yM := Lib.hid (OwnV.o yM.out ok_ (fun ad ad' e e' => by cases e'; have := lo_xP.out; have := hi_xP.out; have := lo_yM.out ad e; have := hi_yM.out ad e; show ad.block ≠ gP; omega))
          replace xgMB := Lib.hid (rowIs_o xgMB.out ok_ (fun ad e => by cases e; have := lo_xP.out; have := hi_xP.out; have := lo_xgMB.out; have := hi_xgMB.out; show gMB ≠ gP; omega))
          replace xQ := Lib.hid (rowIs_o xQ.out ok_ (fun ad e => by cases e; have := lo_xP.out; have := hi_xP.out; have := lo_xQ.out; have := hi_xQ.out; show gQ ≠ gP; omega))
          replace xR := Lib.hid (rowIs_o xR.out ok_ (fun ad e => by cases e; have := lo_xP.out; have := hi_xP.out; have := lo_xR.out; have := hi_xR.out; have := lo_xQ.out; have := hi_xQ.out; show gR ≠ gP; omega))
          replace yP := Lib.hid (OwnV.o yP.out ok_ (fun ad ad' e e' => by cases e'; have := lo_xP.out; have := hi_xP.out; have := lo_yP.out ad e; have := hi_yP.out ad e; have := lo_xQ.out; have := hi_xQ.out; have := lo_xR.out; have := hi_xR.out; show ad.block ≠ gP; omega))
          replace xgPB := Lib.hid (rowIs_o xgPB.out ok_ (fun ad e => by cases e; have := lo_xP.out; have := hi_xP.out; have := lo_xgPB.out; have := hi_xgPB.out; have := lo_xQ.out; have := hi_xQ.out; have := lo_xR.out; have := hi_xR.out; have := mo_yP.out; show w9.heap.size ≠ gP; omega))
          clear ok_ xP
          go_wp2_with fail
          refine (markInt_b gQ n1 _ l1 (1 + (n0 : Int) * 2) _ le1.out xQ.out hm1 (by omega) (by omega)).mono ?_
          rintro e w18 ⟨rfl, oo⟩
          have ok_ := oo.o
          clear oo
          replace u := Lib.hid (u.out.trans (ok_.below u.out.size (fun ad e => by cases e; have := lo_xQ.out; have := hi_xQ.out; have := mo_yM.out; have := lo_xP.out; have := hi_xP.out; show w.heap.size ≤ gQ; omega)))
          replace sz := Lib.hid (Nat.le_trans sz.out ok_.size)
          replace yM := Lib.hid (OwnV.o yM.out ok_ (fun ad ad' e e' => by cases e'; have := lo_xQ.out; have := hi_xQ.out; have := lo_yM.out ad e; have := hi_yM.out ad e; have := lo_xP.out; have := hi_xP.out; show ad.block ≠ gQ; omega))
          replace xgMB := Lib.hid (rowIs_o xgMB.out ok_ (fun ad e => by cases e; have := lo_xQ.out; have := hi_xQ.out; have := lo_xgMB.out; have := hi_xgMB.out; have := lo_xP.out; have := hi_xP.out; show gMB ≠ gQ; omega))
          replace xR := Lib.hid (rowIs_o xR.out ok_ (fun ad e => by cases e; have := lo_xQ.out; have := hi_xQ.out; have := lo_xR.out; have := hi_xR.out; show gR ≠ gQ; omega))
          replace yP := Lib.hid (OwnV.o yP.out ok_ (fun ad ad' e e' => by cases e'; have := lo_xQ.out; have := hi_xQ.out; have := lo_yP.out ad e; have := hi_yP.out ad e; have := lo_xR.out; have := hi_xR.out; show ad.block ≠ gQ; omega))
          replace xgPB := Lib.hid (rowIs_o xgPB.out ok_ (fun ad e => by cases e; have := lo_xQ.out; have := hi_xQ.out; have := lo_xgPB.out; have := hi_xgPB.out; have := lo_xR.out; have := hi_xR.out; have := mo_yP.out; show w9.heap.size ≠ gQ; omega))
          clear ok_ xQ
          go_wp2_with fail
          refine (markVotesG_b gR n2 _ l2 (1 + (n0 : Int) * 2 + (n1 : Int)) _ le2.out xR.out hm2 (by omega) (by omega)).mono ?_
          rintro e w19 ⟨rfl, oo⟩
          have ok_ := oo.o
          clear oo
          replace u := Lib.hid (u.out.trans (ok_.below u.out.size (fun ad e => by cases e; have := lo_xR.out; have := hi_xR.out; have := mo_yM.out; have := lo_xP.out; have := hi_xP.out; have := lo_xQ.out; have := hi_xQ.out; show w.heap.size ≤ gR; omega)))
          replace sz := Lib.hid (Nat.le_trans sz.out ok_.size)
          replace yM := Lib.hid (OwnV.o yM.out ok_ (fun ad ad' e e' => by cases e'; have := lo_xR.out; have := hi_xR.out; have := lo_yM.out ad e; have := hi_yM.out ad e; have := lo_xP.out; have := hi_xP.out; have := lo_xQ.out; have := hi_xQ.out; show ad.block ≠ gR; omega))
          replace xgMB := Lib.hid (rowIs_o xgMB.out ok_ (fun ad e => by cases e; have := lo_xR.out; have := hi_xR.out; have := lo_xgMB.out; have := hi_xgMB.out; have := lo_xP.out; have := hi_xP.out; have := lo_xQ.out; have := hi_xQ.out; show gMB ≠ gR; omega))
          replace yP := Lib.hid (OwnV.o yP.out ok_ (fun ad ad' e e' => by cases e'; have := lo_xR.out; have := hi_xR.out; have := lo_yP.out ad e; have := hi_yP.out ad e; show ad.block ≠ gR; omega))
          replace xgPB := Lib.hid (rowIs_o xgPB.out ok_ (fun ad e => by cases e; have := lo_xR.out; have := hi_xR.out; have := lo_xgPB.out; have := hi_xgPB.out; have := mo_yP.out; show w9.heap.size ≠ gR; omega))
          clear ok_ xR
          have hk0 : ¬ (1 + (n0 : Int) * 2 + (n1 : Int) + (n2 : Int) * 3 < 0) := by omega
          have hrgPB := xgPB.out.cell (i := 0) (by omega)
          have hrgMB := xgMB.out.cell (i := 0) (by omega)
          go_wp2_with fail
          refine (eqPool_b AP AM nP nM cP cM _ _ yP.out.votes yM.out.votes (by omega) (by omega)).mono ?_
          rintro e w20 ⟨rfl, b20⟩
          clear hrgPB hrgMB
          replace u := Lib.hid (u.out.trans (b20.mono u.out.size))
          replace sz := Lib.hid (Nat.le_trans sz.out b20.size)
          replace yM := Lib.hid (yM.out.below b20)
          replace xgMB := Lib.hid (rowIs_below xgMB.out b20 xgMB.out.lt)
          replace yP := Lib.hid (yP.out.below b20)
          replace xgPB := Lib.hid (rowIs_below xgPB.out b20 xgPB.out.lt)
          clear b20
          clear hk0
          have hrgPB := xgPB.out.cell (i := 0) (by omega)
          go_wp2_with fail
          refine (markPoolR_b AP nP cP _ _ 1 _ yP.out (by omega) (by decide) (by decide)).mono ?_
          rintro e w21 ⟨rfl, oP2, oo⟩
          have ok_ := oo
          clear oo
          clear hrgPB
          replace u := Lib.hid (u.out.trans (ok_.below u.out.size (fun ad e => by have := lo_yP.out ad e; have := hi_yP.out ad e; have := mo_yM.out; have := lo_xP.out; have := hi_xP.out; have := lo_xQ.out; have := hi_xQ.out; have := lo_xR.out; have := hi_xR.out; omega)))
          replace sz := Lib.hid (Nat.le_trans sz.out ok_.size)
          replace yM := Lib.hid (OwnV.o yM.out ok_ (fun ad ad' e e' => by have := lo_yP.out ad' e'; have := hi_yP.out ad' e'; have := lo_yM.out ad e; have := hi_yM.out ad e; have := lo_xP.out; have := hi_xP.out; have := lo_xQ.out; have := hi_xQ.out; have := lo_xR.out; have := hi_xR.out; omega))
          replace xgMB := Lib.hid (rowIs_o xgMB.out ok_ (fun ad e => by have := lo_yP.out ad e; have := hi_yP.out ad e; have := lo_xgMB.out; have := hi_xgMB.out; have := lo_xP.out; have := hi_xP.out; have := lo_xQ.out; have := hi_xQ.out; have := lo_xR.out; have := hi_xR.out; omega))
          replace xgPB := Lib.hid (rowIs_o xgPB.out ok_ (fun ad e => by have := lo_yP.out ad e; have := hi_yP.out ad e; have := lo_xgPB.out; have := hi_xgPB.out; omega))
          clear yP ok_
          have yP := Lib.hid oP2; clear oP2
          have hrgPB := xgPB.out.cell (i := 0) (by omega)
          go_wp2_with fail
          refine (heldPool_b AP nP cP 1 _ yP.out.votes (by omega) (by decide) (by decide)).mono ?_
          rintro e w22 ⟨rfl, b22⟩
          clear hrgPB
          replace u := Lib.hid (u.out.trans (b22.mono u.out.size))
          replace sz := Lib.hid (Nat.le_trans sz.out b22.size)
          replace yM := Lib.hid (yM.out.below b22)
          replace xgMB := Lib.hid (rowIs_below xgMB.out b22 xgMB.out.lt)
          replace yP := Lib.hid (yP.out.below b22)
          replace xgPB := Lib.hid (rowIs_below xgPB.out b22 xgPB.out.lt)
          clear b22
          have hlt0 : ¬ (1 + (nP : Int) * 3) < 0 := by omega
          have hne : ((1 + (nP : Int) * 3) != (1 + (nP : Int) * 3)) = false := by simp
          go_upto_region 37 with fail
          have hT := Lib.hid (toBlk_g A0 n0 c0 l0 w22 (show BlksAt w22 w22.heap.size A0 n0 l0 from ⟨(ha0.out.up u.out).1, (ha0.out.up u.out).2⟩) hm0)
          go_cut [18, 19] from 113 to 122 (fun s t wx => ∃ AX nX cX pX, s = .pointer (some ⟨pX, 0, none⟩) ∧ t = .bool (pofOK l0 l1 l2) ∧ Hid (OwnV wx w22.heap.size AX nX (pofR l0 l1 l2)) ∧ Hid (wx.rowIs pX 29 1 (fun _ => .slice AX nX cX)) ∧ Hid (w22.heap.size ≤ pX) ∧ Hid (Below w22.heap.size w22 wx))
          case first =>
            have tk0 : True := trivial
            go_wp2_with (first
              | (clear tk0
                 go_at_call 17
                 refine hT.out.mono ?_
                 rintro e wy0 ⟨gy0, rfl, ry, by0, _, _⟩
                 have by_ := by0
                 have y0 := Lib.hid ry
                 have ua0 := Lib.hid (show Below w22.heap.size w22 wy0 from ⟨by_.os, by_.tape, by_.output, by_.size, by_.block⟩)
                 clear ry by_ by0
                 have tk1 : True := trivial)
              | (clear tk1
                 go_at_call 18
                 refine (toInt_g A1 n1 c1 l1 _ (ha1.out.up' (u.out.trans (ua0.out.mono u.out.size))) hm1).mono ?_
                 rintro e wy1 ⟨gy1, rfl, ry, by0, _, _⟩
                 have by_ := by0
                 try replace zb := Lib.hid (rowIs_below zb.out by_ zb.out.lt)
                 have y1 := Lib.hid ry
                 replace y0 := Lib.hid (rowIs_below y0.out by_ y0.out.lt)
                 have ua1 := Lib.hid (ua0.out.trans (by_.mono ua0.out.size))
                 clear ry by_ by0
                 have tk2 : True := trivial)
              | (clear tk2
                 go_at_call 19
                 refine (toVotes_g A2 n2 c2 l2 _ (ha2.out.up (u.out.trans (ua1.out.mono u.out.size))) hm2).mono ?_
                 rintro e wy2 ⟨gy2, rfl, ry, by0, _, _⟩
                 have by_ := by0
                 try replace zb := Lib.hid (rowIs_below zb.out by_ zb.out.lt)
                 have y2 := Lib.hid ry
                 replace y0 := Lib.hid (rowIs_below y0.out by_ y0.out.lt)
                 replace y1 := Lib.hid (rowIs_below y1.out by_ y1.out.lt)
                 have ua2 := Lib.hid (ua1.out.trans (by_.mono ua1.out.size))
                 clear ry by_ by0
                 have tk3 : True := trivial)
              | (clear tk3
                 go_at_call 20
                 refine (implPoolOf_any _ n0 _ l0 _ n1 _ l1 _ n2 _ l2 _ (row_blks' le0.out y0.out) (row_ints le1.out y1.out) (row_votesB le2.out y2.out) hm0 hm1 hm2).mono ?_
                 rintro e we ⟨AX, nX, cX, rfl, oe, be⟩
                 try have gz := Lib.hid zb.out.lt
                 try replace zb := Lib.hid (rowIs_below zb.out be zb.out.lt)
                 try have hzb := zb.out.cell (i := 0) (by omega)
                 try have hzf := zb.out.frozen 0
                 have hB := Lib.hid ua2.out.size
                 have ye := Lib.hid oe
                 have ue := Lib.hid (ua2.out.trans (be.mono ua2.out.size))
                 clear be oe))
            all_goals
              go_wp2_with fail
              go_meet
              case rel => first
                | exact ⟨_, _, _, _, rfl, rfl, Lib.hid ((ye.out.below (bx_below we _)).fewer hB.out), Lib.hid (bx_row we _ _), Lib.hid ue.out.size, Lib.hid (ue.out.trans ((bx_below we _).mono ue.out.size))⟩
                | exact ⟨_, _, _, _, rfl, rfl, Lib.hid ((ye.out.setBox gz.out _).fewer hB.out), Lib.hid ((zb.out.set 0 _).congr (fun i hi => by rw [if_pos (by omega)])), Lib.hid lz.out, Lib.hid (ue.out.setCell (p := ⟨_, 0, none⟩) lz.out _)⟩
          case rest =>
            obtain ⟨AH, nH, cH, gHB, rfl, rfl, yH, xgHB, lgHB, k5⟩ := hcut
            skip
            clear hT
            have k6 := k5.out
            clear k5
            have hnH : nH ≤ 100 := by rw [← yH.out.len]; exact hlen.out
            replace u := Lib.hid (u.out.trans (k6.mono u.out.size))
            replace sz := Lib.hid (Nat.le_trans sz.out k6.size)
            replace yM := Lib.hid (yM.out.below k6)
            replace xgMB := Lib.hid (rowIs_below xgMB.out k6 xgMB.out.lt)
            replace yP := Lib.hid (yP.out.below k6)
            replace xgPB := Lib.hid (rowIs_below xgPB.out k6 xgPB.out.lt)
            clear k6
            have hrgHB := xgHB.out.cell (i := 0) (by omega)
            have hrgMB := xgMB.out.cell (i := 0) (by omega)
            go_wp2_with fail
            refine (eqPool_b AH AM nH nM cH cM _ _ yH.out.votes yM.out.votes (by omega) (by omega)).mono ?_
            rintro e w23 ⟨rfl, b23⟩
            clear hrgHB hrgMB
            replace u := Lib.hid (u.out.trans (b23.mono u.out.size))
            replace sz := Lib.hid (Nat.le_trans sz.out b23.size)
            replace yM := Lib.hid (yM.out.below b23)
            replace xgMB := Lib.hid (rowIs_below xgMB.out b23 xgMB.out.lt)
            replace yP := Lib.hid (yP.out.below b23)
            replace xgPB := Lib.hid (rowIs_below xgPB.out b23 xgPB.out.lt)
            replace yH := Lib.hid (yH.out.below b23)
            replace xgHB := Lib.hid (rowIs_below xgHB.out b23 xgHB.out.lt)
            clear b23
            have hrgPB := xgPB.out.cell (i := 0) (by omega)
            go_wp2_with fail
            refine (heldPool_b AP nP cP 1 _ yP.out.votes (by omega) (by decide) (by decide)).mono ?_
            rintro e w24 ⟨rfl, b24⟩
            clear hrgPB
            replace u := Lib.hid (u.out.trans (b24.mono u.out.size))
            replace sz := Lib.hid (Nat.le_trans sz.out b24.size)
            replace yM := Lib.hid (yM.out.below b24)
            replace xgMB := Lib.hid (rowIs_below xgMB.out b24 xgMB.out.lt)
            replace yP := Lib.hid (yP.out.below b24)
            replace xgPB := Lib.hid (rowIs_below xgPB.out b24 xgPB.out.lt)
            replace yH := Lib.hid (yH.out.below b24)
            replace xgHB := Lib.hid (rowIs_below xgHB.out b24 xgHB.out.lt)
            clear b24
            go_wp2_with fail
            go_ret
            exact ⟨rfl, u.out⟩
      · skip
        have lf2 := Lib.hid (show (if (n2 : Int) ≤ 1048576 - (n0 : Int) then 1048576 - (n0 : Int) - (n2 : Int) else -1) = -1 from if_neg hz2)
        clear h0 h1 h2
        go_enter Try.func3, Try.ntmps3
        have tk0 : True := trivial
        go_wp2_with (first
          | (clear tk0; go_at_call 14; refine (szBlk_g _ n0 _ (1048576) _ hn0 (by omega) (by omega)).mono ?_; rintro e w' ⟨rfl, rfl⟩; rw [lf0.out]; have tk1 : True := trivial)
          | (clear tk1; go_at_call 15; refine (szVote_g _ n2 _ (1048576 - (n0 : Int)) _ hn2 (by omega) (by omega)).mono ?_; rintro e w' ⟨rfl, rfl⟩; rw [lf2.out]; have tk2 : True := trivial))
        go_ret
        exact ⟨rfl, u.out⟩
    · skip
      have lf0 := Lib.hid (show (if (n0 : Int) ≤ 1048576 then 1048576 - (n0 : Int) else -1) = -1 from if_neg hz0)
      clear h0 h1 h2
      go_enter Try.func3, Try.ntmps3
      have tk0 : True := trivial
      go_wp2_with (first
        | (clear tk0; go_at_call 14; refine (szBlk_g _ n0 _ (1048576) _ hn0 (by omega) (by omega)).mono ?_; rintro e w' ⟨rfl, rfl⟩; rw [lf0.out]; have tk1 : True := trivial))
      go_ret
      exact ⟨rfl, u.out⟩
  · skip
    have hgt : (1048576 : Int) < (n1 : Int) := by omega
    clear h0 h1 h2
    go_enter Try.func3, Try.ntmps3
    go_wp2_with fail
    go_ret
    exact ⟨rfl, u.out⟩
end Go.Proofs.Ytlobjfipefibaaa
