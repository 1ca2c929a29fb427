/- What is proved here: the law on GoodPool returns true at every argument, and writes nothing that was there. No conditions. -/
import Derived.Test.YtbggglddgpeobaaVotePoolSpec
import Derived.Test.YtbggglddgpeobaaLawPool
import Derived.Test.YtbggglddgpeobaaOpenVotes
import Derived.Deep.Cut
import Derived.Deep.CutRange
namespace Go.Proofs.Ytbggglddgpeobaa
open Go.RowKit

set_option maxRecDepth 100000 in
set_option maxHeartbeats 3200000 in
theorem lawGoodPool (A0 : Option Addr) (n0 c0 : Nat) (l0 : List Blk) (A1 : Option Addr) (n1 c1 : Nat) (l1 : List Int) (A2 : Option Addr) (n2 c2 : Nat) (l2 : List Vt) (w : World) (h0 : BlksAt w w.heap.size A0 n0 l0) (hn0 : n0 ≤ 140737488351232) (h1 : IntsAt w w.heap.size A1 n1 l1) (hn1 : n1 ≤ 140737488351232) (h2 : VotesAt w w.heap.size A2 n2 l2) (hn2 : n2 ≤ 9223372036854775807) :
    Calls Try.prog 9 #[.slice A0 n0 c0, .slice A1 n1 c1, .agg #[.slice A2 n2 c2]] w fun e w' => e = .returned (.bool true) ∧ Below w.heap.size w w' := by
  have bx := Lib.hid (Bx.start w (.slice A2 n2 c2) 88)
  have hcB := bx.out.cell
  by_cases hm1 : n1 ≤ 1048576
  · by_cases hz0 : (n0 : Int) ≤ 1048576
    · have hm0 : n0 ≤ 1048576 := by omega
      have lf0 := Lib.hid (show (if (n0 : Int) ≤ 1048576 then 1048576 - (n0 : Int) else -1) = 1048576 - (n0 : Int) from if_pos hz0)
      have lp0 : ¬ (1048576 - (n0 : Int) < 0) := by omega
      by_cases hz2 : (n2 : Int) ≤ 1048576 - (n0 : Int)
      · have hm2 : n2 ≤ 1048576 := by omega
        have lf2 := Lib.hid (show (if (n2 : Int) ≤ 1048576 - (n0 : Int) then 1048576 - (n0 : Int) - (n2 : Int) else -1) = 1048576 - (n0 : Int) - (n2 : Int) from if_pos hz2)
        have lp2 : ¬ (1048576 - (n0 : Int) - (n2 : Int) < 0) := by omega
        have le0 := Lib.hid h0.1; have ha0 := Lib.hid h0
        have le1 := Lib.hid h1.1; have ha1 := Lib.hid h1
        have le2 := Lib.hid h2.1; have ha2 := Lib.hid h2
        have hq0 : (poolOk l0 l1 l2 != poolOk l0 l1 l2) = false := by simp
        clear h0 h1 h2 hz0 hz2
        go_enter Try.func9, Try.ntmps9
        go_upto_region 10 with (first
          | (go_at_call 60; refine (szBlk_g _ n0 _ 1048576 _ hn0 (by omega) (by omega)).mono ?_; rintro e w' ⟨rfl, rfl⟩; rw [lf0.out])
          | (go_at_call 74; refine (szPool_g _ n2 _ (1048576 - (n0 : Int)) _ hn2 (by omega) (by omega)).mono ?_; rintro e w1 ⟨rfl, b1⟩; rw [lf2.out]; replace bx := Lib.hid (bx.out.step b1); clear hcB b1; have hcB := bx.out.cell))
        have hT := Lib.hid (toBlk_g A0 n0 c0 l0 w1.drew (show BlksAt w1.drew w1.drew.heap.size A0 n0 l0 from ⟨(ha0.out.up bx.out.below).1, (ha0.out.up bx.out.below).2⟩) hm0)
        go_cut [8] from 26 to 32 (fun s wx => s = .bool (poolOk l0 l1 l2) ∧ Hid (Below w1.heap.size w1 wx))
        case first =>
          go_region_with (first
            | (go_at_call 62
               refine hT.out.mono ?_
               rintro e w2 ⟨g2, rfl, r2, b2, _, _⟩
               have x2 := Lib.hid r2
               have u2 := Lib.hid (show Below w1.heap.size w1 w2 from ⟨b2.os, b2.tape, b2.output, b2.size, b2.block⟩)
               have hcB2 := (bx.out.step u2.out).cell
               clear r2 b2)
            | (go_at_call 63
               refine (toInt_g A1 n1 c1 l1 _ (ha1.out.up' (bx.out.step u2.out).below) hm1).mono ?_
               rintro e w3 ⟨g3, rfl, r3, b3, _, _⟩
               have x3 := Lib.hid r3
               have x2' := Lib.hid (rowIs_below x2.out b3 x2.out.lt)
               have u3 := Lib.hid (u2.out.trans (b3.mono u2.out.size))
               have hcB3 := (bx.out.step u3.out).cell
               clear r3 b3)
            | (go_at_call 75
               refine (toPool_g A2 n2 c2 l2 _ (ha2.out.up (bx.out.step u3.out).below) hm2).mono ?_
               rintro e w4 ⟨g4, rfl, r4, b4, _, _⟩
               have x4 := Lib.hid r4
               have x2'' := Lib.hid (rowIs_below x2'.out b4 x2'.out.lt)
               have x3' := Lib.hid (rowIs_below x3.out b4 x3.out.lt)
               have u4 := Lib.hid (u3.out.trans (b4.mono u3.out.size))
               clear r4 b4)
            | (go_at_call 77
               refine (specGoodPool_any _ n0 _ l0 _ n1 _ l1 _ n2 _ l2 _ (row_blks' le0.out x2''.out) (row_ints le1.out x3'.out) (row_votes' le2.out x4.out) hm0 hm1 hm2).mono ?_
               rintro e w5 ⟨rfl, b5⟩
               have u5 := Lib.hid (u4.out.trans (b5.mono u4.out.size))
               clear b5))
          all_goals
            go_wp2_with fail
            go_meet
            case rel => exact ⟨rfl, u5⟩
        case rest =>
          obtain ⟨rfl, k5⟩ := hcut
          have bx5 := Lib.hid (bx.out.step k5.out)
          clear hcB bx hT k5
          go_wp2_with fail
          refine (toBlk_g A0 n0 c0 l0 _ (ha0.out.up bx5.out.below) hm0).mono ?_
          rintro e w6 ⟨g6, rfl, r6, b6, _, _⟩
          have x6 := Lib.hid r6
          have bx6 := Lib.hid (bx5.out.step b6)
          clear r6 b6 bx5
          go_wp2_with fail
          refine (toInt_g A1 n1 c1 l1 _ (ha1.out.up' bx6.out.below) hm1).mono ?_
          rintro e w7 ⟨g7, rfl, r7, b7, _, _⟩
          have x7 := Lib.hid r7
          replace x6 := Lib.hid (rowIs_below x6.out b7 x6.out.lt)
          have bx7 := Lib.hid (bx6.out.step b7)
          have hcB := bx7.out.cell
          clear r7 b7 bx6
          go_wp2_with fail
          refine (toPool_g A2 n2 c2 l2 _ (ha2.out.up bx7.out.below) hm2).mono ?_
          rintro e w8 ⟨g8, rfl, r8, b8, _, _⟩
          have x8 := Lib.hid r8
          replace x6 := Lib.hid (rowIs_below x6.out b8 x6.out.lt)
          replace x7 := Lib.hid (rowIs_below x7.out b8 x7.out.lt)
          have bx8 := Lib.hid (bx7.out.step b8)
          have bq8 := Lib.hid (Bx.start w8 (.slice (some ⟨g8, 0, none⟩) n2 n2) 50)
          clear r8 b8 bx7 hcB
          have k8 : Below w8.heap.size w8 (w8.alloc (.cells #[.slice (some ⟨g8, 0, none⟩) n2 n2] 50)) := bx_below w8 _
          have y6 := Lib.hid (rowIs_below x6.out k8 x6.out.lt)
          have y7 := Lib.hid (rowIs_below x7.out k8 x7.out.lt)
          have y8 := Lib.hid (rowIs_below x8.out k8 x8.out.lt)
          have bz8 := Lib.hid (bx8.out.step k8)
          clear k8 x6 x7 x8 bx8
          have hcq := bq8.out.cell
          go_wp2_with fail
          refine (goodPool_any _ n0 _ l0 _ n1 _ l1 _ n2 _ l2 _ (row_blks' le0.out y6.out) (row_ints le1.out y7.out) (row_votes' le2.out y8.out) hm0 hm1 hm2).mono ?_
          rintro e w9 ⟨rfl, b9⟩
          have y6' := Lib.hid (rowIs_below y6.out b9 y6.out.lt)
          have y7' := Lib.hid (rowIs_below y7.out b9 y7.out.lt)
          have y8' := Lib.hid (rowIs_below y8.out b9 y8.out.lt)
          have bz9 := Lib.hid (bz8.out.step b9)
          have bq9 := Lib.hid (bq8.out.step b9)
          clear b9 y6 y7 y8 bz8 bq8 hcq
          go_wp2_with fail
          refine (toBlk_g A0 n0 c0 l0 _ (ha0.out.up bz9.out.below) hm0).mono ?_
          rintro e w10 ⟨g10, rfl, r10, b10, _, _⟩
          have z10 := Lib.hid r10
          have y6a := Lib.hid (rowIs_below y6'.out b10 y6'.out.lt)
          have y7a := Lib.hid (rowIs_below y7'.out b10 y7'.out.lt)
          have y8a := Lib.hid (rowIs_below y8'.out b10 y8'.out.lt)
          have bz10 := Lib.hid (bz9.out.step b10)
          have bq10 := Lib.hid (bq9.out.step b10)
          clear r10 b10 y6' y7' y8' bz9 bq9
          go_wp2_with fail
          refine (eqBlk_b _ _ n0 n0 _ _ l0 _ (row_blks' le0.out y6a.out) (row_blks' le0.out z10.out) hm0 hm0).mono ?_
          rintro e w11 ⟨rfl, b11⟩
          have y7b := Lib.hid (rowIs_below y7a.out b11 y7a.out.lt)
          have y8b := Lib.hid (rowIs_below y8a.out b11 y8a.out.lt)
          have bz11 := Lib.hid (bz10.out.step b11)
          have bq11 := Lib.hid (bq10.out.step b11)
          clear b11 y6a y7a y8a z10 bz10 bq10
          go_wp2_with fail
          refine (toInt_g A1 n1 c1 l1 _ (ha1.out.up' bz11.out.below) hm1).mono ?_
          rintro e w12 ⟨g12, rfl, r12, b12, _, _⟩
          have z12 := Lib.hid r12
          have y7c := Lib.hid (rowIs_below y7b.out b12 y7b.out.lt)
          have y8c := Lib.hid (rowIs_below y8b.out b12 y8b.out.lt)
          have bz12 := Lib.hid (bz11.out.step b12)
          have bq12 := Lib.hid (bq11.out.step b12)
          clear r12 b12 y7b y8b bz11 bq11
          go_wp2_with fail
          refine (eqInt_b _ _ n1 n1 _ _ l1 _ (row_ints le1.out y7c.out) (row_ints le1.out z12.out) hm1 hm1).mono ?_
          rintro e w13 ⟨rfl, b13⟩
          have y8d := Lib.hid (rowIs_below y8c.out b13 y8c.out.lt)
          have bz13 := Lib.hid (bz12.out.step b13)
          have bq13 := Lib.hid (bq12.out.step b13)
          clear b13 y7c y8c z12 bz12 bq12
          have hcA := bz13.out.cell
          have hcX := bq13.out.cell
          have hT2 := Lib.hid (toPool_g A2 n2 c2 l2 w13.drew (show VotesAt w13.drew w13.drew.heap.size A2 n2 l2 from ⟨(ha2.out.up bz13.out.below).1, (ha2.out.up bz13.out.below).2⟩) hm2)
          go_wp2_with fail
          go_region_with (first
            | (go_at_call 75
               refine hT2.out.mono ?_
               rintro e w14 ⟨g14, rfl, r14, b14, _, _⟩
               have z14 := Lib.hid r14
               have u14 := Lib.hid (show Below w13.heap.size w13 w14 from ⟨b14.os, b14.tape, b14.output, b14.size, b14.block⟩)
               have hcA2 := (bz13.out.step u14.out).cell
               have hcX2 := (bq13.out.step u14.out).cell
               have y8e := Lib.hid (rowIs_below y8d.out u14.out y8d.out.lt)
               clear r14 b14)
            | (go_at_call 65
               refine (eqPool_b _ _ n2 n2 n2 n2 l2 _ (row_votes' le2.out y8e.out) (row_votes' le2.out z14.out) hm2 hm2).mono ?_
               rintro e w15 ⟨rfl, b15⟩
               have v15 := Lib.hid ((bz13.out.step u14.out).step b15)
               clear b15))
          all_goals
            go_wp2_with fail
            go_ret
            exact ⟨rfl, v15.out.below⟩
      · have lf2 := Lib.hid (show (if (n2 : Int) ≤ 1048576 - (n0 : Int) then 1048576 - (n0 : Int) - (n2 : Int) else -1) = -1 from if_neg hz2)
        clear h0 h1 h2
        go_enter Try.func9, Try.ntmps9
        go_wp2_with (first
          | (go_at_call 60; refine (szBlk_g _ n0 _ 1048576 _ hn0 (by omega) (by omega)).mono ?_; rintro e w' ⟨rfl, rfl⟩; rw [lf0.out])
          | (go_at_call 74; refine (szPool_g _ n2 _ (1048576 - (n0 : Int)) _ hn2 (by omega) (by omega)).mono ?_; rintro e w1 ⟨rfl, b1⟩; rw [lf2.out]; replace bx := Lib.hid (bx.out.step b1); clear hcB b1))
        go_ret
        exact ⟨rfl, bx.out.below⟩
    · have lf0 := Lib.hid (show (if (n0 : Int) ≤ 1048576 then 1048576 - (n0 : Int) else -1) = -1 from if_neg hz0)
      clear h0 h1 h2
      go_enter Try.func9, Try.ntmps9
      go_wp2_with (go_at_call 60; refine (szBlk_g _ n0 _ 1048576 _ hn0 (by omega) (by omega)).mono ?_; rintro e w' ⟨rfl, rfl⟩; rw [lf0.out])
      go_ret
      exact ⟨rfl, bx.out.below⟩
  · have hgt : (1048576 : Int) < (n1 : Int) := by omega
    clear h0 h1 h2
    go_enter Try.func9, Try.ntmps9
    go_wp2_with fail
    go_ret
    exact ⟨rfl, bx.out.below⟩
end Go.Proofs.Ytbggglddgpeobaa
