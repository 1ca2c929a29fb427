/- What is proved here: the law on OneLink returns true at every slice of blocks and every integers, and writes nothing that was there. No conditions. -/
import Derived.Test.YthiegfbdmmpabaaLinkImpl0
import Derived.Test.YthiegfbdmmpabaaLinkSpec
namespace Go.Proofs.Ythiegfbdmmpabaa
open Go.RowKit

set_option maxHeartbeats 400000 in
theorem lawOneLink (A : Option Addr) (n c : Nat) (ts : List Blk) (a b : Int) (w : World) (h : BlksAt w w.heap.size A n ts) (hn : n ≤ 140737488351232) :
    Calls Try.prog 10 #[.slice A n c, .int .i64 a, .int .i64 b] w fun e w' => e = .returned (.bool true) ∧ Below w.heap.size w w' := by
  by_cases hm : n ≤ 1048576
  · have hlf := Lib.hid (show leftR n = 1048576 - n by unfold leftR; rw [if_pos hm])
    have hh := Lib.hid h; clear h
    have hq0 : (oneR ts a b != oneR ts a b) = false := by simp
    have hq1 : (abvOk ts a b != abvOk ts a b) = false := by simp
    have hqe : eqT ts ts = true := by unfold eqT; simp
    go_enter Try.func10, Try.ntmps10
    go_wp2_with (go_at_call 14; refine (szBlockS_any _ _ _ _ hn).mono ?_; rintro e w' ⟨rfl, rfl⟩; rw [hlf.out])
    refine (toBlockS_any _ _ _ ts _ hh.out hm).mono ?_
    rintro e w1 ⟨rfl, r1, b1, s1⟩
    have k1 := Lib.hid (BlksAt.of_row s1 hh.out.1 r1)
    have u1 := Lib.hid b1
    clear r1 b1 s1
    go_wp2_with fail
    refine (specOneLink_any _ n _ ts a b _ k1.out hm).mono ?_
    rintro e w2 ⟨rfl, b2⟩
    have u2 := Lib.hid (u1.out.trans (b2.mono u1.out.size)); clear b2
    go_wp2_with fail
    refine (toBlockS_any _ _ _ ts _ (hh.out.up u2.out) hm).mono ?_
    rintro e w3 ⟨rfl, r3, b3, s3⟩
    have k3 := Lib.hid (BlksAt.of_row s3 hh.out.1 r3)
    have u3 := Lib.hid (u2.out.trans (b3.mono u2.out.size))
    clear r3 b3 s3
    go_wp2_with fail
    refine (implOneLink_any _ n _ ts a b _ k3.out hm).mono ?_
    rintro e w4 ⟨rfl, b4⟩
    have k4 := Lib.hid (k3.out.up b4)
    have u4 := Lib.hid (u3.out.trans (b4.mono u3.out.size)); clear b4
    go_wp2_with fail
    refine (toBlockS_any _ _ _ ts _ (hh.out.up u4.out) hm).mono ?_
    rintro e w5 ⟨rfl, r5, b5, s5⟩
    have k5 := Lib.hid (BlksAt.of_row s5 hh.out.1 r5)
    have k6 := Lib.hid (k4.out.up b5)
    have u5 := Lib.hid (u4.out.trans (b5.mono u4.out.size))
    clear r5 b5 s5
    go_wp2_with fail
    refine (eqBlockS_any _ _ _ _ _ _ ts ts _ k6.out k5.out hm hm).mono ?_
    rintro e w6 ⟨rfl, b6⟩
    have u6 := Lib.hid (u5.out.trans (b6.mono u5.out.size)); clear b6
    rw [hqe]
    go_wp2_with fail
    go_ret
    exact ⟨rfl, u6.out⟩
  · have hlf := Lib.hid (show leftR n = -1 by unfold leftR; rw [if_neg hm])
    clear h
    go_enter Try.func10, Try.ntmps10
    go_wp2_with (go_at_call 14; refine (szBlockS_any _ _ _ _ hn).mono ?_; rintro e w' ⟨rfl, rfl⟩; rw [hlf.out])
    go_ret
    exact ⟨rfl, Below.refl _ _⟩
end Go.Proofs.Ythiegfbdmmpabaa
