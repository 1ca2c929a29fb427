/- What is proved here: the law on MaskOf returns true at every slice of integers, and writes nothing that was there. No conditions but that the table of bits holds what its text lays. -/
import Derived.Test.YtpopefopmbmgaaaDoorMaskWalks
namespace Go.Proofs.YtpopefopmbmgaaaDoor
open Go.RowKit

set_option maxHeartbeats 800000 in
theorem lawMaskOf (A : Option Addr) (n c : Nat) (xs : List Int) (w : World) (h : IntsAt w w.heap.size A n xs) (hm : n ≤ maxLen) (ht : TabOk w) :
    Calls Tryd.prog 7 #[.slice A n c] w fun e w' => e = .returned (.bool true) ∧ Below w.heap.size w w' := by
  unfold maxLen at hm
  by_cases hn : n ≤ 1048576
  · have hl := Lib.hid h.1
    have hq1 : (mOf xs != mOf xs) = false := by simp
    have hq2 : (risB xs 0 9 != risB xs 0 9) = false := by simp
    go_enter Tryd.func7, Tryd.ntmps7
    go_wp2_with fail
    refine (toIntS_any A n c xs _ h hn).mono ?_
    rintro e w1 ⟨rfl, r1, b1, s1⟩
    go_wp2_with fail
    refine (specMask_any _ _ _ w1.heap.size xs _ (IntsAt.of_row (Nat.le_refl _) s1 hl.out r1) hn).mono ?_
    rintro e w2 ⟨rfl, rfl⟩
    go_wp2_with fail
    have h1 : IntsAt w1 w1.heap.size A n xs := (h.below b1).more b1.size
    have t1 : TabOk w1 := ht.below b1 ht.pos
    refine (toIntS_any A n c xs _ h1 hn).mono ?_
    rintro e w2 ⟨rfl, r2, b2, s2⟩
    have t2 : TabOk w2 := t1.below b2 t1.pos
    go_wp2_with fail
    refine (implMask_any _ _ _ w2.heap.size xs _ (IntsAt.of_row (Nat.le_refl _) s2 hl.out r2) hn t2).mono ?_
    rintro e w3 ⟨rfl, rfl⟩
    go_wp2_with fail
    have h2 : IntsAt w2 w2.heap.size A n xs := (h1.below b2).more b2.size
    refine (toIntS_any A n c xs _ h2 hn).mono ?_
    rintro e w3 ⟨rfl, r3, b3, s3⟩
    go_wp2_with fail
    have hq : eqB xs xs = true := eqB_yes rfl (fun _ _ => rfl)
    refine (eqIntS_any _ _ n n _ _ w3.heap.size xs xs _ (IntsAt.of_row (Nat.le_refl _) (Nat.lt_trans s2 s3) hl.out (rowIs_below r2 b3 s2)) (IntsAt.of_row (Nat.le_refl _) s3 hl.out r3) hn hn).mono ?_
    rintro e w4 ⟨rfl, m, rfl⟩
    go_wp2
    go_ret
    exact ⟨rfl, below_drewN (b1.trans ((b2.mono (Nat.le_of_lt s1)).trans (b3.mono (Nat.le_of_lt (Nat.lt_trans s1 s2))))) m⟩
  · have hgt : (1048576 : Int) < (n : Int) := by omega
    go_enter Tryd.func7, Tryd.ntmps7
    go_wp2
    go_ret
    exact ⟨rfl, Below.refl _ _⟩
end Go.Proofs.YtpopefopmbmgaaaDoor
