/- What is proved here: the law on MarginAt returns true at every argument, and writes nothing that was there. No conditions. -/
import Derived.Test.YtbggglddgpeobabGhostMarg
import Derived.Test.YtbggglddgpeobabLawCopy
namespace Go.Proofs.Ytbggglddgpeobab
open Go.RowKit

set_option maxRecDepth 100000 in
set_option maxHeartbeats 1600000 in
theorem lawMarginAt (A0 : Option Addr) (n0 c0 : Nat) (l0 : List Blk) (A1 : Option Addr) (n1 c1 : Nat) (l1 : List Int) (a : Int) (w : World) (h0 : BlksAt w w.heap.size A0 n0 l0) (hn0 : n0 ≤ 140737488351232) (h1 : IntsAt w w.heap.size A1 n1 l1) (hn1 : n1 ≤ 140737488351232) :
    Calls Try.prog 10 #[.slice A0 n0 c0, .slice A1 n1 c1, .int .i64 a] w fun e w' => e = .returned (.bool true) ∧ Below w.heap.size w w' := by
  by_cases hm1 : n1 ≤ 1048576
  · skip
    by_cases hz0 : (n0 : Int) ≤ 1048576
    · skip
      have hm0 : n0 ≤ 1048576 := by omega
      have lf0 := Lib.hid (show (if (n0 : Int) ≤ 1048576 then 1048576 - (n0 : Int) else -1) = 1048576 - (n0 : Int) from if_pos hz0)
      have lp0 : ¬ (1048576 - (n0 : Int) < 0) := by omega
      have le0 := Lib.hid h0.1
      have ha0 := Lib.hid h0; clear h0
      have le1 := Lib.hid h1.1
      have ha1 := Lib.hid h1; clear h1
      have hq0 : (margR l0 l1 a != margR l0 l1 a) = false := by simp
      have hq1 : (childOK l0 l1 a != childOK l0 l1 a) = false := by simp
      have u := Lib.hid (Below.refl w.heap.size w)
      go_enter Try.func10, Try.ntmps10
      go_wp2_with (first | (go_at_call 31; refine (szBlk_g _ n0 _ (1048576) _ hn0 (by omega) (by omega)).mono ?_; rintro e w' ⟨rfl, rfl⟩; rw [lf0.out]))
      refine (toBlk_g A0 n0 c0 l0 _ (ha0.out.up u.out) hm0).mono ?_
      rintro e w1 ⟨gm0, rfl, rm0, b1, d1, e1⟩
      have xm0 := Lib.hid rm0; clear rm0
      have lom0 := Lib.hid d1; have him0 := Lib.hid e1; clear d1 e1
      have bam0 := Lib.hid u.out.size
      replace u := Lib.hid (u.out.trans (b1.mono u.out.size))
      clear b1
      go_wp2_with fail
      refine (toInt_g A1 n1 c1 l1 _ (ha1.out.up' u.out) hm1).mono ?_
      rintro e w2 ⟨gm1, rfl, rm1, b2, d2, e2⟩
      have xm1 := Lib.hid rm1; clear rm1
      have lom1 := Lib.hid d2; have him1 := Lib.hid e2; clear d2 e2
      have bam1 := Lib.hid u.out.size
      replace u := Lib.hid (u.out.trans (b2.mono u.out.size))
      replace xm0 := Lib.hid (rowIs_below xm0.out b2 xm0.out.lt)
      clear b2
      go_wp2_with fail
      refine (specMarg_any _ n0 _ l0 _ n1 _ l1 a _ (row_blks' le0.out xm0.out) (row_ints le1.out xm1.out) hm0 hm1).mono ?_
      rintro e w3 ⟨rfl, b3⟩
      replace u := Lib.hid (u.out.trans (b3.mono u.out.size))
      clear b3
      clear xm0 lom0 him0 bam0 xm1 lom1 him1 bam1
      go_wp2_with fail
      refine (toBlk_g A0 n0 c0 l0 _ (ha0.out.up u.out) hm0).mono ?_
      rintro e w4 ⟨gp0, rfl, rp0, b4, d4, e4⟩
      have xp0 := Lib.hid rp0; clear rp0
      have lop0 := Lib.hid d4; have hip0 := Lib.hid e4; clear d4 e4
      have bap0 := Lib.hid u.out.size
      replace u := Lib.hid (u.out.trans (b4.mono u.out.size))
      clear b4
      go_wp2_with fail
      refine (toInt_g A1 n1 c1 l1 _ (ha1.out.up' u.out) hm1).mono ?_
      rintro e w5 ⟨gp1, rfl, rp1, b5, d5, e5⟩
      have xp1 := Lib.hid rp1; clear rp1
      have lop1 := Lib.hid d5; have hip1 := Lib.hid e5; clear d5 e5
      have bap1 := Lib.hid u.out.size
      replace u := Lib.hid (u.out.trans (b5.mono u.out.size))
      replace xp0 := Lib.hid (rowIs_below xp0.out b5 xp0.out.lt)
      clear b5
      go_wp2_with fail
      refine (implMarg_any _ n0 _ l0 _ n1 _ l1 a _ (row_blks' le0.out xp0.out) (row_ints le1.out xp1.out) hm0 hm1).mono ?_
      rintro e w6 ⟨rfl, b6⟩
      have orp1 := Lib.hid (Nat.lt_of_lt_of_le hip0.out lop1.out)
      replace u := Lib.hid (u.out.trans (b6.mono u.out.size))
      replace xp0 := Lib.hid (rowIs_below xp0.out b6 xp0.out.lt)
      replace xp1 := Lib.hid (rowIs_below xp1.out b6 xp1.out.lt)
      clear b6
      go_wp2_with fail
      refine (toBlk_g A0 n0 c0 l0 _ (ha0.out.up u.out) hm0).mono ?_
      rintro e w7 ⟨gq0, rfl, rq0, b7, d7, e7⟩
      have xq0 := Lib.hid rq0; clear rq0
      have loq0 := Lib.hid d7; have hiq0 := Lib.hid e7; clear d7 e7
      have baq0 := Lib.hid u.out.size
      replace u := Lib.hid (u.out.trans (b7.mono u.out.size))
      replace xp0 := Lib.hid (rowIs_below xp0.out b7 xp0.out.lt)
      replace xp1 := Lib.hid (rowIs_below xp1.out b7 xp1.out.lt)
      clear b7
      go_wp2_with fail
      refine (eqBlk_b _ _ n0 n0 _ _ l0 _ (row_blks' le0.out xp0.out) (row_blks' le0.out xq0.out) hm0 hm0).mono ?_
      rintro e w8 ⟨rfl, b8⟩
      replace u := Lib.hid (u.out.trans (b8.mono u.out.size))
      replace xp0 := Lib.hid (rowIs_below xp0.out b8 xp0.out.lt)
      replace xp1 := Lib.hid (rowIs_below xp1.out b8 xp1.out.lt)
      clear b8
      clear xq0 loq0 hiq0 baq0
      go_wp2_with fail
      refine (toInt_g A1 n1 c1 l1 _ (ha1.out.up' u.out) hm1).mono ?_
      rintro e w9 ⟨gq1, rfl, rq1, b9, d9, e9⟩
      have xq1 := Lib.hid rq1; clear rq1
      have loq1 := Lib.hid d9; have hiq1 := Lib.hid e9; clear d9 e9
      have baq1 := Lib.hid u.out.size
      replace u := Lib.hid (u.out.trans (b9.mono u.out.size))
      replace xp0 := Lib.hid (rowIs_below xp0.out b9 xp0.out.lt)
      replace xp1 := Lib.hid (rowIs_below xp1.out b9 xp1.out.lt)
      clear b9
      go_wp2_with fail
      refine (eqInt_b _ _ n1 n1 _ _ l1 _ (row_ints le1.out xp1.out) (row_ints le1.out xq1.out) hm1 hm1).mono ?_
      rintro e w10 ⟨rfl, b10⟩
      replace u := Lib.hid (u.out.trans (b10.mono u.out.size))
      replace xp0 := Lib.hid (rowIs_below xp0.out b10 xp0.out.lt)
      replace xp1 := Lib.hid (rowIs_below xp1.out b10 xp1.out.lt)
      clear b10
      clear xq1 loq1 hiq1 baq1
      go_wp2_with fail
      go_ret
      exact ⟨rfl, u.out⟩
    · have lf0 := Lib.hid (show (if (n0 : Int) ≤ 1048576 then 1048576 - (n0 : Int) else -1) = -1 from if_neg hz0)
      clear h0 h1
      go_enter Try.func10, Try.ntmps10
      go_wp2_with (first | (go_at_call 31; refine (szBlk_g _ n0 _ (1048576) _ hn0 (by omega) (by omega)).mono ?_; rintro e w' ⟨rfl, rfl⟩; rw [lf0.out]))
      go_ret
      exact ⟨rfl, Below.refl _ _⟩
  · have hgt : (1048576 : Int) < (n1 : Int) := by omega
    go_enter Try.func10, Try.ntmps10
    go_wp2
    go_ret
    exact ⟨rfl, Below.refl _ _⟩
end Go.Proofs.Ytbggglddgpeobab
