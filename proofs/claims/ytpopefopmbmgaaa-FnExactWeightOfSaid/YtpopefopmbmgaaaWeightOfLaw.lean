/- What is proved here: the law on WeightOf returns true at every two slices of integers, and writes nothing that was there. No conditions. -/
import Derived.Test.YtpopefopmbmgaaaWalksF
namespace Go.Proofs.Ytpopefopmbmgaaa
open Go.RowKit

set_option maxHeartbeats 1600000 in
theorem lawWeightOf (A A' : Option Addr) (m n c c' : Nat) (s xs : List Int) (w : World) (hS : IntsAt w w.heap.size A' m s) (h : IntsAt w w.heap.size A n xs) (hmm : m ≤ maxLen) (hnn : n ≤ maxLen) :
    Calls Try.prog 4 #[.slice A' m c', .slice A n c] w fun e w' => e = .returned (.bool true) ∧ Below w.heap.size w w' := by
  unfold maxLen at hmm hnn
  by_cases hm : m ≤ 1048576
  · by_cases hn : n ≤ 1048576
    · have hl := Lib.hid h.1
      have hlS := Lib.hid hS.1
      have hq1 : (wOf s xs != wOf s xs) = false := by simp
      have hq2 : (ofB s xs != ofB s xs) = false := by simp
      go_enter Try.func4, Try.ntmps4
      go_wp2_with fail
      refine (toIntS_any A' m c' s _ hS hm).mono ?_
      rintro e w1 ⟨rfl, r1, b1, s1⟩
      go_wp2_with fail
      have h1 : IntsAt w1 w1.heap.size A n xs := (h.below b1).more b1.size
      have hS1 : IntsAt w1 w1.heap.size A' m s := (hS.below b1).more b1.size
      refine (toIntS_any A n c xs _ h1 hn).mono ?_
      rintro e w2 ⟨rfl, r2, b2, s2⟩
      go_wp2_with fail
      refine (specWeightOf_any _ _ _ _ _ _ w2.heap.size s xs _ (IntsAt.of_row (Nat.le_refl _) (Nat.lt_trans s1 s2) hlS.out (rowIs_below r1 b2 s1)) (IntsAt.of_row (Nat.le_refl _) s2 hl.out r2) hn hm).mono ?_
      rintro e w3 ⟨rfl, rfl⟩
      go_wp2_with fail
      have h2 : IntsAt w2 w2.heap.size A n xs := (h1.below b2).more b2.size
      have hS2 : IntsAt w2 w2.heap.size A' m s := (hS1.below b2).more b2.size
      refine (toIntS_any A' m c' s _ hS2 hm).mono ?_
      rintro e w3 ⟨rfl, r3, b3, s3⟩
      go_wp2_with fail
      have h3 : IntsAt w3 w3.heap.size A n xs := (h2.below b3).more b3.size
      have hS3 : IntsAt w3 w3.heap.size A' m s := (hS2.below b3).more b3.size
      refine (toIntS_any A n c xs _ h3 hn).mono ?_
      rintro e w4 ⟨rfl, r4, b4, s4⟩
      go_wp2_with fail
      have r3' := rowIs_below r3 b4 s3
      refine (implWeightOf_any _ _ _ _ _ _ w4.heap.size s xs _ (IntsAt.of_row (Nat.le_refl _) (Nat.lt_trans s3 s4) hlS.out r3') (IntsAt.of_row (Nat.le_refl _) s4 hl.out r4) hn hm).mono ?_
      rintro e w5 ⟨rfl, rfl⟩
      go_wp2_with fail
      have h4 : IntsAt w4 w4.heap.size A n xs := (h3.below b4).more b4.size
      have hS4 : IntsAt w4 w4.heap.size A' m s := (hS3.below b4).more b4.size
      refine (toIntS_any A' m c' s _ hS4 hm).mono ?_
      rintro e w5 ⟨rfl, r5, b5, s5⟩
      go_wp2_with fail
      have hqs : eqB s s = true := eqB_yes rfl (fun _ _ => rfl)
      have hqx : eqB xs xs = true := eqB_yes rfl (fun _ _ => rfl)
      refine (eqIntS_any _ _ m m _ _ w5.heap.size s s _ (IntsAt.of_row (Nat.le_refl _) (Nat.lt_trans (Nat.lt_trans s3 s4) s5) hlS.out (rowIs_below r3' b5 (Nat.lt_trans s3 s4))) (IntsAt.of_row (Nat.le_refl _) s5 hlS.out r5) hm hm).mono ?_
      rintro e w6 ⟨rfl, d, rfl⟩
      go_wp2_with fail
      have h5 : IntsAt (w5.drewN d) w5.heap.size A n xs := (h4.below b5).more b5.size
      refine (toIntS_any A n c xs (w5.drewN d) h5 hn).mono ?_
      rintro e w6 ⟨rfl, r6, b6, s6⟩
      have b6' : Below w5.heap.size w5 w6 := (below_drewN (Below.refl _ _) d).trans b6
      have s6' : w5.heap.size < w6.heap.size := s6
      go_wp2_with fail
      refine (eqIntS_any _ _ n n _ _ w6.heap.size xs xs _ (IntsAt.of_row (Nat.le_refl _) (Nat.lt_trans (Nat.lt_trans s4 s5) s6') hl.out (rowIs_below (rowIs_below r4 b5 s4) b6' (Nat.lt_trans s4 s5))) (IntsAt.of_row (Nat.le_refl _) s6' hl.out r6) hn hn).mono ?_
      rintro e w7 ⟨rfl, d2, rfl⟩
      go_wp2
      go_ret
      refine ⟨rfl, below_drewN ?_ d2⟩
      have e1 : w.heap.size ≤ w2.heap.size := Nat.le_of_lt (Nat.lt_trans s1 s2)
      have e2 : w.heap.size ≤ w3.heap.size := Nat.le_trans e1 (Nat.le_of_lt s3)
      have e3 : w.heap.size ≤ w4.heap.size := Nat.le_trans e2 (Nat.le_of_lt s4)
      exact b1.trans ((b2.mono (Nat.le_of_lt s1)).trans ((b3.mono e1).trans ((b4.mono e2).trans ((b5.mono e3).trans (b6'.mono (Nat.le_trans e3 (Nat.le_of_lt s5)))))))
    · have hgt : (1048576 : Int) < (n : Int) := by omega
      go_enter Try.func4, Try.ntmps4
      go_wp2
      go_ret
      exact ⟨rfl, Below.refl _ _⟩
  · have hgt : (1048576 : Int) < (m : Int) := by omega
    go_enter Try.func4, Try.ntmps4
    go_wp2
    go_ret
    exact ⟨rfl, Below.refl _ _⟩
end Go.Proofs.Ytpopefopmbmgaaa
