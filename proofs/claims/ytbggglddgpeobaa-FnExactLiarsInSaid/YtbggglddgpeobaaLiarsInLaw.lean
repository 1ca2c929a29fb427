/- What is proved here: the law on LiarsIn returns true at every argument, and writes nothing that was there. No conditions. -/
import Derived.Test.YtbggglddgpeobaaLiarsSpec
import Derived.Test.YtbggglddgpeobaaLawPool
import Derived.Test.YtbggglddgpeobaaOpenVotes
import Derived.Deep.Cut
import Derived.Deep.CutRange
namespace Go.Proofs.Ytbggglddgpeobaa
open Go.RowKit

set_option maxRecDepth 100000 in
set_option maxHeartbeats 3200000 in
theorem lawLiarsIn (A0 : Option Addr) (n0 c0 : Nat) (l0 : List Blk) (A1 : Option Addr) (n1 c1 : Nat) (l1 : List Int) (A2 : Option Addr) (n2 c2 : Nat) (l2 : List Vt) (w : World) (h0 : BlksAt w w.heap.size A0 n0 l0) (hn0 : n0 ≤ 140737488351232) (h1 : IntsAt w w.heap.size A1 n1 l1) (hn1 : n1 ≤ 140737488351232) (h2 : VotesAt w w.heap.size A2 n2 l2) (hn2 : n2 ≤ 9223372036854775807) :
    Calls Try.prog 11 #[.slice A0 n0 c0, .slice A1 n1 c1, .agg #[.slice A2 n2 c2]] w fun e w' => e = .returned (.bool true) ∧ Below w.heap.size w w' := by
  have bx := Lib.hid (Bx.start w (.slice A2 n2 c2) 88)
  have hcB := bx.out.cell
  by_cases hm1 : n1 ≤ 1048576
  · by_cases hz0 : (n0 : Int) ≤ 1048576
    · have hm0 : n0 ≤ 1048576 := by omega
      have lf0 := Lib.hid (show (if (n0 : Int) ≤ 1048576 then 1048576 - (n0 : Int) else -1) = 1048576 - (n0 : Int) from if_pos hz0)
      have lp0 : ¬ (1048576 - (n0 : Int) < 0) := by omega
      by_cases hz2 : (n2 : Int) ≤ 1048576 - (n0 : Int)
      · have hm2 : n2 ≤ 1048576 := by omega
        have lf2 := Lib.hid (show (if (n2 : Int) ≤ 1048576 - (n0 : Int) then 1048576 - (n0 : Int) - (n2 : Int) else -1) = 1048576 - (n0 : Int) - (n2 : Int) from if_pos hz2)
        have lp2 : ¬ (1048576 - (n0 : Int) - (n2 : Int) < 0) := by omega
        have le0 := Lib.hid h0.1; have ha0 := Lib.hid h0
        have le1 := Lib.hid h1.1; have ha1 := Lib.hid h1
        have le2 := Lib.hid h2.1; have ha2 := Lib.hid h2
        have hq1 : (poolOk l0 l1 l2 != poolOk l0 l1 l2) = false := by simp
        have hlen := Lib.hid (liarsR_len l0 l1 l2)
        clear h0 h1 h2 hz0 hz2
        go_enter Try.func11, Try.ntmps11
        go_upto_region 10 with (first
          | (go_at_call 60; refine (szBlk_g _ n0 _ 1048576 _ hn0 (by omega) (by omega)).mono ?_; rintro e w' ⟨rfl, rfl⟩; rw [lf0.out])
          | (go_at_call 74; refine (szPool_g _ n2 _ (1048576 - (n0 : Int)) _ hn2 (by omega) (by omega)).mono ?_; rintro e w1 ⟨rfl, b1⟩; rw [lf2.out]; replace bx := Lib.hid (bx.out.step b1); clear hcB b1; have hcB := bx.out.cell))
        have hT := Lib.hid (toBlk_g A0 n0 c0 l0 w1.drew (show BlksAt w1.drew w1.drew.heap.size A0 n0 l0 from ⟨(ha0.out.up bx.out.below).1, (ha0.out.up bx.out.below).2⟩) hm0)
        go_cut [8, 9] from 33 to 42 (fun s t wx => ∃ AX nX cX, s = .slice AX nX cX ∧ t = .bool (poolOk l0 l1 l2) ∧ Hid (OwnAt wx w1.heap.size AX nX (liarsR l0 l1 l2)) ∧ Hid (Below w1.heap.size w1 wx))
        case first =>
          go_region_with (first
            | (go_at_call 62
               refine hT.out.mono ?_
               rintro e wa ⟨ga, rfl, ra, ba, _, _⟩
               have xa := Lib.hid ra
               have ua := Lib.hid (show Below w1.heap.size w1 wa from ⟨ba.os, ba.tape, ba.output, ba.size, ba.block⟩)
               have hcBa := (bx.out.step ua.out).cell
               clear ra ba)
            | (go_at_call 63
               refine (toInt_g A1 n1 c1 l1 _ (ha1.out.up' (bx.out.step ua.out).below) hm1).mono ?_
               rintro e wb ⟨gb, rfl, rb, bb, _, _⟩
               have xb := Lib.hid rb
               have xab := Lib.hid (rowIs_below xa.out bb xa.out.lt)
               have ub := Lib.hid (ua.out.trans (bb.mono ua.out.size))
               have hcBb := (bx.out.step ub.out).cell
               clear rb bb)
            | (go_at_call 75
               refine (toPool_g A2 n2 c2 l2 _ (ha2.out.up (bx.out.step ub.out).below) hm2).mono ?_
               rintro e wd ⟨gd, rfl, rd, bd, _, _⟩
               have xd := Lib.hid rd
               have xad := Lib.hid (rowIs_below xab.out bd xab.out.lt)
               have xbd := Lib.hid (rowIs_below xb.out bd xb.out.lt)
               have ud := Lib.hid (ub.out.trans (bd.mono ub.out.size))
               clear rd bd)
            | (go_at_call 53
               refine (specLiars_any _ n0 _ l0 _ n1 _ l1 _ n2 _ l2 _ (row_blks' le0.out xad.out) (row_ints le1.out xbd.out) (row_votes' le2.out xd.out) hm0 hm1 hm2).mono ?_
               rintro e we ⟨AX, nX, cX, rfl, oe, be⟩
               have ye := Lib.hid (oe.fewer ud.out.size)
               have ue := Lib.hid (ud.out.trans (be.mono ud.out.size))
               clear be oe))
          all_goals
            go_wp2_with fail
            go_meet
            case rel => exact ⟨_, _, _, rfl, rfl, ye, ue⟩
        case rest =>
          obtain ⟨AM, nM, cM, rfl, rfl, yM, k5⟩ := hcut
          skip
          have hnM : nM ≤ 100 := by rw [← yM.out.len]; exact hlen.out
          have hiM := Lib.hid (fun ad (e : AM = some ad) => (yM.out.low ad e).2)
          have bsz := Lib.hid ((bx.out.step k5.out).size)
          replace bx := Lib.hid (bx.out.step k5.out)
          clear hcB hT k5
          go_wp2_with fail
          refine (toBlk_g A0 n0 c0 l0 _ (ha0.out.up bx.out.below) hm0).mono ?_
          rintro e w6 ⟨gP, rfl, rP, b6, loP, hiP⟩
          have xP := Lib.hid rP; clear rP
          have loP' := Lib.hid loP; have hiP' := Lib.hid hiP; clear loP hiP
          replace bx := Lib.hid (bx.out.step b6)
          replace yM := Lib.hid (yM.out.below b6)
          clear b6
          have ltM := Lib.hid (fun ad (e : AM = some ad) => Nat.lt_of_lt_of_le (hiM.out ad e) loP'.out)
          have baP := Lib.hid (Nat.le_trans bsz.out loP'.out)
          clear hiM bsz
          go_wp2_with fail
          refine (toInt_g A1 n1 c1 l1 _ (ha1.out.up' bx.out.below) hm1).mono ?_
          rintro e w7 ⟨gQ, rfl, rQ, b7, loQ, hiQ⟩
          have xQ := Lib.hid rQ; clear rQ
          have loQ' := Lib.hid loQ; have hiQ' := Lib.hid hiQ; clear loQ hiQ
          replace bx := Lib.hid (bx.out.step b7)
          replace yM := Lib.hid (yM.out.below b7)
          replace xP := Lib.hid (rowIs_below xP.out b7 xP.out.lt)
          clear b7
          have orQ := Lib.hid (Nat.lt_of_lt_of_le hiP'.out loQ'.out)
          have hcB := bx.out.cell
          go_wp2_with fail
          refine (toPool_g A2 n2 c2 l2 _ (ha2.out.up bx.out.below) hm2).mono ?_
          rintro e w8 ⟨gR, rfl, rR, b8, loR, hiR⟩
          clear hcB
          have xR := Lib.hid rR; clear rR
          have loR' := Lib.hid loR; have hiR' := Lib.hid hiR; clear loR hiR
          replace bx := Lib.hid (bx.out.step b8)
          replace yM := Lib.hid (yM.out.below b8)
          replace xP := Lib.hid (rowIs_below xP.out b8 xP.out.lt)
          replace xQ := Lib.hid (rowIs_below xQ.out b8 xQ.out.lt)
          clear b8
          have orR := Lib.hid (Nat.lt_of_lt_of_le hiQ'.out loR'.out)
          have bq := Lib.hid (Bx.start w8 (.slice (some ⟨gR, 0, none⟩) n2 n2) 50)
          have kk : Below w8.heap.size w8 (w8.alloc (.cells #[.slice (some ⟨gR, 0, none⟩) n2 n2] 50)) := bx_below w8 _
          replace bx := Lib.hid (bx.out.step kk)
          replace yM := Lib.hid (yM.out.below kk)
          replace xP := Lib.hid (rowIs_below xP.out kk xP.out.lt)
          replace xQ := Lib.hid (rowIs_below xQ.out kk xQ.out.lt)
          replace xR := Lib.hid (rowIs_below xR.out kk xR.out.lt)
          clear kk
          have hcq := bq.out.cell
          go_wp2_with fail
          refine (implLiars_any _ n0 _ l0 _ n1 _ l1 _ n2 _ l2 _ (row_blks' le0.out xP.out) (row_ints le1.out xQ.out) (row_votes' le2.out xR.out) hm0 hm1 hm2).mono ?_
          rintro e w9 ⟨AP, nP, cP, rfl, oP, b9⟩
          have hnP : nP ≤ 100 := by rw [← oP.len]; exact hlen.out
          have gtP := Lib.hid (fun ad (e : AP = some ad) => (show w8.heap.size < ad.block by have := (oP.low ad e).1; simp at this; omega))
          have yP := Lib.hid oP; clear oP hcq
          replace bq := Lib.hid (bq.out.step b9)
          replace bx := Lib.hid (bx.out.step b9)
          replace yM := Lib.hid (yM.out.below b9)
          replace xP := Lib.hid (rowIs_below xP.out b9 xP.out.lt)
          replace xQ := Lib.hid (rowIs_below xQ.out b9 xQ.out.lt)
          replace xR := Lib.hid (rowIs_below xR.out b9 xR.out.lt)
          clear b9
          go_wp2_with fail
          refine (eqInt_b AP AM nP nM cP cM _ _ yP.out.ints yM.out.ints (by omega) (by omega)).mono ?_
          rintro e w10 ⟨rfl, b10⟩
          replace bq := Lib.hid (bq.out.step b10)
          replace bx := Lib.hid (bx.out.step b10)
          replace yM := Lib.hid (yM.out.below b10)
          replace yP := Lib.hid (yP.out.below b10)
          replace xP := Lib.hid (rowIs_below xP.out b10 xP.out.lt)
          replace xQ := Lib.hid (rowIs_below xQ.out b10 xQ.out.lt)
          replace xR := Lib.hid (rowIs_below xR.out b10 xR.out.lt)
          clear b10
          go_wp2_with fail
          refine (toBlk_g A0 n0 c0 l0 _ (ha0.out.up bx.out.below) hm0).mono ?_
          rintro e w11 ⟨gS, rfl, rS, b11, _, _⟩
          have xS := Lib.hid rS; clear rS
          replace bq := Lib.hid (bq.out.step b11)
          replace bx := Lib.hid (bx.out.step b11)
          replace yM := Lib.hid (yM.out.below b11)
          replace yP := Lib.hid (yP.out.below b11)
          replace xP := Lib.hid (rowIs_below xP.out b11 xP.out.lt)
          replace xQ := Lib.hid (rowIs_below xQ.out b11 xQ.out.lt)
          replace xR := Lib.hid (rowIs_below xR.out b11 xR.out.lt)
          clear b11
          go_wp2_with fail
          refine (eqBlk_b _ _ n0 n0 _ _ l0 _ (row_blks' le0.out xP.out) (row_blks' le0.out xS.out) hm0 hm0).mono ?_
          rintro e w12 ⟨rfl, b12⟩
          replace bq := Lib.hid (bq.out.step b12)
          replace bx := Lib.hid (bx.out.step b12)
          replace yM := Lib.hid (yM.out.below b12)
          replace yP := Lib.hid (yP.out.below b12)
          replace xP := Lib.hid (rowIs_below xP.out b12 xP.out.lt)
          replace xQ := Lib.hid (rowIs_below xQ.out b12 xQ.out.lt)
          replace xR := Lib.hid (rowIs_below xR.out b12 xR.out.lt)
          replace xS := Lib.hid (rowIs_below xS.out b12 xS.out.lt)
          clear b12
          clear xS
          go_wp2_with fail
          refine (toInt_g A1 n1 c1 l1 _ (ha1.out.up' bx.out.below) hm1).mono ?_
          rintro e w13 ⟨gT, rfl, rT, b13, _, _⟩
          have xT := Lib.hid rT; clear rT
          replace bq := Lib.hid (bq.out.step b13)
          replace bx := Lib.hid (bx.out.step b13)
          replace yM := Lib.hid (yM.out.below b13)
          replace yP := Lib.hid (yP.out.below b13)
          replace xP := Lib.hid (rowIs_below xP.out b13 xP.out.lt)
          replace xQ := Lib.hid (rowIs_below xQ.out b13 xQ.out.lt)
          replace xR := Lib.hid (rowIs_below xR.out b13 xR.out.lt)
          clear b13
          go_wp2_with fail
          refine (eqInt_b _ _ n1 n1 _ _ l1 _ (row_ints le1.out xQ.out) (row_ints le1.out xT.out) hm1 hm1).mono ?_
          rintro e w14 ⟨rfl, b14⟩
          replace bq := Lib.hid (bq.out.step b14)
          replace bx := Lib.hid (bx.out.step b14)
          replace yM := Lib.hid (yM.out.below b14)
          replace yP := Lib.hid (yP.out.below b14)
          replace xP := Lib.hid (rowIs_below xP.out b14 xP.out.lt)
          replace xQ := Lib.hid (rowIs_below xQ.out b14 xQ.out.lt)
          replace xR := Lib.hid (rowIs_below xR.out b14 xR.out.lt)
          replace xT := Lib.hid (rowIs_below xT.out b14 xT.out.lt)
          clear b14
          clear xT
          have hcA := bx.out.cell
          have hcX := bq.out.cell
          have hT2 := Lib.hid (toPool_g A2 n2 c2 l2 w14.drew (show VotesAt w14.drew w14.drew.heap.size A2 n2 l2 from ⟨(ha2.out.up bx.out.below).1, (ha2.out.up bx.out.below).2⟩) hm2)
          go_upto_region 21 with fail
          go_cut [79] from 75 to 79 (fun s wx => s = .bool false ∧ Hid (Below w14.heap.size w14 wx))
          case first =>
            go_region_with (first
              | (go_at_call 75
                 refine hT2.out.mono ?_
                 rintro e wa ⟨ga, rfl, ra, ba, _, _⟩
                 have xa := Lib.hid ra
                 have ua := Lib.hid (show Below w14.heap.size w14 wa from ⟨ba.os, ba.tape, ba.output, ba.size, ba.block⟩)
                 have hcA2 := (bx.out.step ua.out).cell
                 have hcX2 := (bq.out.step ua.out).cell
                 have xRa := Lib.hid (rowIs_below xR.out ua.out xR.out.lt)
                 clear ra ba)
              | (go_at_call 65
                 refine (eqPool_b _ _ n2 n2 n2 n2 l2 _ (row_votes' le2.out xRa.out) (row_votes' le2.out xa.out) hm2 hm2).mono ?_
                 rintro e wb ⟨rfl, bb⟩
                 have ub := Lib.hid (ua.out.trans (bb.mono ua.out.size))
                 clear bb))
            all_goals
              go_wp2_with fail
              go_meet
              case rel => exact ⟨rfl, ub⟩
          case rest =>
            obtain ⟨rfl, k6⟩ := hcut
            have k7 := k6.out
            clear k6 hcA hcX hT2
            replace bq := Lib.hid (bq.out.step k7)
            replace bx := Lib.hid (bx.out.step k7)
            replace yM := Lib.hid (yM.out.below k7)
            replace yP := Lib.hid (yP.out.below k7)
            replace xP := Lib.hid (rowIs_below xP.out k7 xP.out.lt)
            replace xQ := Lib.hid (rowIs_below xQ.out k7 xQ.out.lt)
            replace xR := Lib.hid (rowIs_below xR.out k7 xR.out.lt)
            clear k7
            have bqr := Lib.hid bq.out.row
            clear bq
            go_wp2_with fail
            refine (markBlk_b gP n0 _ _ (1) _ xP.out hm0 (by omega) (by omega)).mono ?_
            rintro e w15 ⟨rfl, o15⟩
            replace bx := Lib.hid (bx.out.stepTo (o15.below (fun ad e => by cases e; have := baP.out; show w.heap.size + 1 ≤ gP; omega)))
            replace yM := Lib.hid (yM.out.only o15 (fun ad ad' e e' => by cases e'; have := ltM.out ad e; show ad.block ≠ gP; omega))
            replace yP := Lib.hid (yP.out.only o15 (fun ad ad' e e' => by cases e'; have := gtP.out ad e; have := hiR'.out; have := orQ.out; have := orR.out; show ad.block ≠ gP; omega))
            replace xQ := Lib.hid (rowIs_only xQ.out o15 (fun ad e => by cases e; have := orQ.out; show gQ ≠ gP; omega))
            replace xR := Lib.hid (rowIs_only xR.out o15 (fun ad e => by cases e; have := orQ.out; have := orR.out; show gR ≠ gP; omega))
            replace bqr := Lib.hid (rowIs_only bqr.out o15 (fun ad e => by cases e; have := hiR'.out; have := orQ.out; have := orR.out; show w8.heap.size ≠ gP; omega))
            clear o15 xP
            go_wp2_with fail
            refine (markInt_b gQ n1 _ l1 (1 + (n0 : Int) * 2) _ le1.out xQ.out hm1 (by omega) (by omega)).mono ?_
            rintro e w16 ⟨rfl, o16⟩
            replace bx := Lib.hid (bx.out.stepTo (o16.below (fun ad e => by cases e; have := baP.out; have := orQ.out; show w.heap.size + 1 ≤ gQ; omega)))
            replace yM := Lib.hid (yM.out.only o16 (fun ad ad' e e' => by cases e'; have := ltM.out ad e; have := orQ.out; show ad.block ≠ gQ; omega))
            replace yP := Lib.hid (yP.out.only o16 (fun ad ad' e e' => by cases e'; have := gtP.out ad e; have := hiR'.out; have := orR.out; show ad.block ≠ gQ; omega))
            replace xR := Lib.hid (rowIs_only xR.out o16 (fun ad e => by cases e; have := orR.out; show gR ≠ gQ; omega))
            replace bqr := Lib.hid (rowIs_only bqr.out o16 (fun ad e => by cases e; have := hiR'.out; have := orR.out; show w8.heap.size ≠ gQ; omega))
            clear o16 xQ
            have hcX := bqr.out.cell (i := 0) (by omega)
            go_wp2_with fail
            refine (markPool_b gR n2 _ l2 (1 + (n0 : Int) * 2 + (n1 : Int)) _ le2.out xR.out hm2 (by omega) (by omega)).mono ?_
            rintro e w17 ⟨rfl, o17⟩
            replace bx := Lib.hid (bx.out.stepTo (o17.below bx.out.size (by have := baP.out; have := orQ.out; have := orR.out; show w.heap.size + 1 ≤ gR; omega)))
            replace yM := Lib.hid (yM.out.onlyU o17 (fun ad e => by have := ltM.out ad e; have := orQ.out; have := orR.out; show ad.block ≠ gR; omega))
            replace yP := Lib.hid (yP.out.onlyU o17 (fun ad e => by have := gtP.out ad e; have := hiR'.out; show ad.block ≠ gR; omega))
            clear o17 xR
            clear hcX bqr
            have hk0 : ¬ (1 + (n0 : Int) * 2 + (n1 : Int) + (n2 : Int) * 3 < 0) := by omega
            go_wp2_with fail
            refine (eqInt_b AP AM nP nM cP cM _ _ yP.out.ints yM.out.ints (by omega) (by omega)).mono ?_
            rintro e w18 ⟨rfl, b18⟩
            replace bx := Lib.hid (bx.out.step b18)
            replace yM := Lib.hid (yM.out.below b18)
            replace yP := Lib.hid (yP.out.below b18)
            clear b18
            clear hk0
            go_wp2_with fail
            refine (markRes_b AP nP cP _ _ 1 _ yP.out (by omega) (by decide) (by decide)).mono ?_
            rintro e w19 ⟨rfl, oP2, o19⟩
            replace bx := Lib.hid (bx.out.stepTo (o19.below (fun ad e => by have := gtP.out ad e; have := baP.out; have := orQ.out; have := orR.out; have := hiR'.out; omega)))
            replace yM := Lib.hid (yM.out.only o19 (fun ad ad' e e' => by have := ltM.out ad e; have := gtP.out ad' e'; have := baP.out; have := orQ.out; have := orR.out; have := hiR'.out; omega))
            clear yP
            have yP := Lib.hid oP2; clear oP2
            clear o19
            go_wp2_with fail
            refine (held_b AP nP cP 1 _ yP.out.ints (by omega) (by decide) (by decide)).mono ?_
            rintro e w20 ⟨rfl, b20⟩
            replace bx := Lib.hid (bx.out.step b20)
            replace yM := Lib.hid (yM.out.below b20)
            replace yP := Lib.hid (yP.out.below b20)
            clear b20
            have hlt0 : ¬ (1 + (nP : Int)) < 0 := by omega
            have hne : ((1 + (nP : Int)) != (1 + (nP : Int))) = false := by simp
            have hcB := bx.out.cell
            go_upto_region 37 with fail
            have hT := Lib.hid (toBlk_g A0 n0 c0 l0 w20.drew (show BlksAt w20.drew w20.drew.heap.size A0 n0 l0 from ⟨(ha0.out.up bx.out.below).1, (ha0.out.up bx.out.below).2⟩) hm0)
            go_cut [18, 19] from 113 to 122 (fun s t wx => ∃ AX nX cX, s = .slice AX nX cX ∧ t = .bool (poolOk l0 l1 l2) ∧ Hid (OwnAt wx w20.heap.size AX nX (liarsR l0 l1 l2)) ∧ Hid (Below w20.heap.size w20 wx))
            case first =>
              go_region_with (first
                | (go_at_call 62
                   refine hT.out.mono ?_
                   rintro e wa ⟨ga, rfl, ra, ba, _, _⟩
                   have xa := Lib.hid ra
                   have ua := Lib.hid (show Below w20.heap.size w20 wa from ⟨ba.os, ba.tape, ba.output, ba.size, ba.block⟩)
                   have hcBa := (bx.out.step ua.out).cell
                   clear ra ba)
                | (go_at_call 63
                   refine (toInt_g A1 n1 c1 l1 _ (ha1.out.up' (bx.out.step ua.out).below) hm1).mono ?_
                   rintro e wb ⟨gb, rfl, rb, bb, _, _⟩
                   have xb := Lib.hid rb
                   have xab := Lib.hid (rowIs_below xa.out bb xa.out.lt)
                   have ub := Lib.hid (ua.out.trans (bb.mono ua.out.size))
                   have hcBb := (bx.out.step ub.out).cell
                   clear rb bb)
                | (go_at_call 75
                   refine (toPool_g A2 n2 c2 l2 _ (ha2.out.up (bx.out.step ub.out).below) hm2).mono ?_
                   rintro e wd ⟨gd, rfl, rd, bd, _, _⟩
                   have xd := Lib.hid rd
                   have xad := Lib.hid (rowIs_below xab.out bd xab.out.lt)
                   have xbd := Lib.hid (rowIs_below xb.out bd xb.out.lt)
                   have ud := Lib.hid (ub.out.trans (bd.mono ub.out.size))
                   clear rd bd)
                | (go_at_call 52
                   refine (implLiars_any _ n0 _ l0 _ n1 _ l1 _ n2 _ l2 _ (row_blks' le0.out xad.out) (row_ints le1.out xbd.out) (row_votes' le2.out xd.out) hm0 hm1 hm2).mono ?_
                   rintro e we ⟨AX, nX, cX, rfl, oe, be⟩
                   have ye := Lib.hid (oe.fewer ud.out.size)
                   have ue := Lib.hid (ud.out.trans (be.mono ud.out.size))
                   clear be oe))
              all_goals
                go_wp2_with fail
                go_meet
                case rel => exact ⟨_, _, _, rfl, rfl, ye, ue⟩
            case rest =>
              obtain ⟨AH, nH, cH, rfl, rfl, yH, k5⟩ := hcut
              skip
              have hnH : nH ≤ 100 := by rw [← yH.out.len]; exact hlen.out
              have k8 := k5.out
              clear k5 hcB hT
              replace bx := Lib.hid (bx.out.step k8)
              replace yM := Lib.hid (yM.out.below k8)
              replace yP := Lib.hid (yP.out.below k8)
              clear k8
              go_wp2_with fail
              refine (eqInt_b AH AM nH nM cH cM _ _ yH.out.ints yM.out.ints (by omega) (by omega)).mono ?_
              rintro e w21 ⟨rfl, b21⟩
              replace bx := Lib.hid (bx.out.step b21)
              replace yM := Lib.hid (yM.out.below b21)
              replace yP := Lib.hid (yP.out.below b21)
              replace yH := Lib.hid (yH.out.below b21)
              clear b21
              go_wp2_with fail
              refine (held_b AP nP cP 1 _ yP.out.ints (by omega) (by decide) (by decide)).mono ?_
              rintro e w22 ⟨rfl, b22⟩
              replace bx := Lib.hid (bx.out.step b22)
              replace yM := Lib.hid (yM.out.below b22)
              replace yP := Lib.hid (yP.out.below b22)
              replace yH := Lib.hid (yH.out.below b22)
              clear b22
              go_wp2_with fail
              go_ret
              exact ⟨rfl, bx.out.below⟩
      · have lf2 := Lib.hid (show (if (n2 : Int) ≤ 1048576 - (n0 : Int) then 1048576 - (n0 : Int) - (n2 : Int) else -1) = -1 from if_neg hz2)
        clear h0 h1 h2
        go_enter Try.func11, Try.ntmps11
        go_wp2_with (first
          | (go_at_call 60; refine (szBlk_g _ n0 _ 1048576 _ hn0 (by omega) (by omega)).mono ?_; rintro e w' ⟨rfl, rfl⟩; rw [lf0.out])
          | (go_at_call 74; refine (szPool_g _ n2 _ (1048576 - (n0 : Int)) _ hn2 (by omega) (by omega)).mono ?_; rintro e w1 ⟨rfl, b1⟩; rw [lf2.out]; replace bx := Lib.hid (bx.out.step b1); clear hcB b1))
        go_ret
        exact ⟨rfl, bx.out.below⟩
    · have lf0 := Lib.hid (show (if (n0 : Int) ≤ 1048576 then 1048576 - (n0 : Int) else -1) = -1 from if_neg hz0)
      clear h0 h1 h2
      go_enter Try.func11, Try.ntmps11
      go_wp2_with (go_at_call 60; refine (szBlk_g _ n0 _ 1048576 _ hn0 (by omega) (by omega)).mono ?_; rintro e w' ⟨rfl, rfl⟩; rw [lf0.out])
      go_ret
      exact ⟨rfl, bx.out.below⟩
  · have hgt : (1048576 : Int) < (n1 : Int) := by omega
    clear h0 h1 h2
    go_enter Try.func11, Try.ntmps11
    go_wp2_with fail
    go_ret
    exact ⟨rfl, bx.out.below⟩
end Go.Proofs.Ytbggglddgpeobaa
