/- What is proved here: the law on SlotsUntil returns true at every slice of integers and every two integers, and writes nothing that was there. No conditions. -/
import Derived.Test.YtagppnmokmnofaaClockB
namespace Go.Proofs.Ytagppnmokmnofaa
open Go.RowKit

set_option maxHeartbeats 1600000 in
theorem lawSlotsUntil (A : Option Addr) (n c : Nat) (xs : List Int) (s x : Int) (w : World) (h : IntsAt w w.heap.size A n xs) (hm : n ≤ maxLen) :
    Calls Try.prog 8 #[.slice A n c, .int .i64 s, .int .i64 x] w fun e w' => e = .returned (.bool true) ∧ Below w.heap.size w w' := by
  unfold maxLen at hm
  by_cases hn : n ≤ 1048576
  · have hl := Lib.hid h.1
    have hq1 : (untilI xs s x != untilI xs s x) = false := by simp
    have hq2 : (untilB xs s x != untilB xs s x) = false := by simp
    have hq : eqB xs xs = true := eqB_yes rfl (fun _ _ => rfl)
    go_enter Try.func8, Try.ntmps8
    go_wp2_with fail
    refine (toIntS_any A n c xs _ h hn).mono ?_
    rintro e w1 ⟨rfl, r1, b1, s1⟩
    have h1 : IntsAt w1 w1.heap.size A n xs := (h.below b1).more b1.size
    go_wp2_with fail
    refine (specUntil_any _ _ _ xs s x _ (IntsAt.of_row (Nat.le_refl _) s1 hl.out r1) hn).mono ?_
    rintro e w2 ⟨rfl, b2⟩
    have h2 : IntsAt w2 w2.heap.size A n xs := (h1.below b2).more b2.size
    have b02 : Below w.heap.size w w2 := b1.trans (b2.mono b1.size)
    clear r1 h1 s1 b1 b2
    go_wp2_with fail
    refine (toIntS_any A n c xs _ h2 hn).mono ?_
    rintro e w3 ⟨rfl, r3, b3, s3⟩
    have h3 : IntsAt w3 w3.heap.size A n xs := (h2.below b3).more b3.size
    have b03 : Below w.heap.size w w3 := b02.trans (b3.mono b02.size)
    go_wp2_with fail
    refine (implUntil_any _ _ _ w3.heap.size xs s x _ (IntsAt.of_row (Nat.le_refl _) s3 hl.out r3) hn).mono ?_
    rintro e w4 ⟨rfl, rfl⟩
    go_wp2_with fail
    refine (toIntS_any A n c xs _ h3 hn).mono ?_
    rintro e w4 ⟨rfl, r4, b4, s4⟩
    have b04 : Below w.heap.size w w4 := b03.trans (b4.mono b03.size)
    go_wp2_with fail
    refine (eqIntS_any _ _ n n _ _ w4.heap.size xs xs _ (IntsAt.of_row (Nat.le_refl _) (Nat.lt_trans s3 s4) hl.out (rowIs_below r3 b4 s3)) (IntsAt.of_row (Nat.le_refl _) s4 hl.out r4) hn hn).mono ?_
    rintro e w5 ⟨rfl, m, rfl⟩
    go_wp2
    go_ret
    exact ⟨rfl, below_drewN b04 m⟩
  · have hgt : (1048576 : Int) < (n : Int) := by omega
    go_enter Try.func8, Try.ntmps8
    go_wp2
    go_ret
    exact ⟨rfl, Below.refl _ _⟩
end Go.Proofs.Ytagppnmokmnofaa
