/- What is proved here: what the functions on seeds and lottery numbers return, in the program and in the model. No conditions beside the ranges of seeds. -/
import Derived.Test.YtagppnmokmnofaaLottery
namespace Go.Proofs.Ytagppnmokmnofaa
open Go.RowKit

theorem isSeed_any (s : Int) (w : World) :
    Calls Try.prog 32 #[.int .i64 s] w fun e w' => e = .returned (.bool (seedB s)) ∧ w = w' := by
  by_cases h1 : 1 ≤ s
  · by_cases h2 : s ≤ 65520
    · have hq := Lib.hid (show seedB s = true from inB_true h1 h2)
      go_enter Try.func32, Try.ntmps32
      go_wp2
      go_ret
      exact ⟨ret_bool (by rw [hq.out]; simp; omega), rfl⟩
    · have hq := Lib.hid (show seedB s = false from inB_high (by omega))
      go_enter Try.func32, Try.ntmps32
      go_wp2
      go_ret
      exact ⟨ret_bool (by rw [hq.out]; try simp; try omega), rfl⟩
  · have hq := Lib.hid (show seedB s = false from inB_low (by omega))
    go_enter Try.func32, Try.ntmps32
    go_wp2
    go_ret
    exact ⟨ret_bool hq.out.symm, rfl⟩
theorem l2Seed_any (s : Int) (w : World) :
    Calls Try.prog 46 #[.int .i64 s] w fun e w' => e = .returned (.bool (seedB s)) ∧ w = w' := by
  go_enter Try.func46, Try.ntmps46
  go_wp2_with (go_at_call 36; refine (l1In_any _ _ _ _).mono ?_; rintro e w' ⟨rfl, rfl⟩)
  go_ret
  exact ⟨rfl, rfl⟩
theorem seedAfter_any (s : Int) (w : World) (h0 : 0 ≤ s) (h1 : s ≤ 65520) :
    Calls Try.prog 33 #[.int .i64 s] w fun e w' => e = .returned (.int .i64 (nxt s)) ∧ w = w' := by
  have m1 := Int.emod_nonneg (17364 * s) (show (65521 : Int) ≠ 0 by decide)
  have m2 := Int.emod_lt_of_pos (17364 * s) (show (0 : Int) < 65521 by decide)
  go_enter Try.func33, Try.ntmps33
  go_wp2
  go_ret
  exact ⟨rfl, rfl⟩
theorem l2Next_any (s : Int) (w : World) (h0 : 0 ≤ s) (h1 : s ≤ 65520) :
    Calls Try.prog 47 #[.int .i64 s] w fun e w' => e = .returned (.int .i64 (nxt s)) ∧ w = w' := by
  have m1 := Int.emod_nonneg (17364 * s) (show (65521 : Int) ≠ 0 by decide)
  have m2 := Int.emod_lt_of_pos (17364 * s) (show (0 : Int) < 65521 by decide)
  go_enter Try.func47, Try.ntmps47
  go_wp2
  go_ret
  exact ⟨rfl, rfl⟩
theorem implNext_any (s : Int) (w : World) :
    Calls Try.prog 25 #[.int .i64 s] w fun e w' => e = .returned (.tuple #[.int .i64 (nextI s), .bool (seedB s)]) ∧ w = w' := by
  cases hs : seedB s
  · have hq := Lib.hid (show nextI s = 0 by unfold nextI; rw [hs]; rfl)
    go_enter Try.func25, Try.ntmps25
    go_wp2_with (go_at_call 32; refine (isSeed_any _ _).mono ?_; rintro e w' ⟨rfl, rfl⟩)
    go_ret2
    exact ⟨ret_two hq.out.symm rfl, rfl⟩
  · have hq := Lib.hid (show nextI s = nxt s by unfold nextI; rw [hs]; rfl)
    have hb := inB_iff.1 hs
    obtain ⟨g1, g2⟩ := hb
    go_enter Try.func25, Try.ntmps25
    go_wp2_with (first
      | (go_at_call 32; refine (isSeed_any _ _).mono ?_; rintro e w' ⟨rfl, rfl⟩)
      | (go_at_call 33; refine (seedAfter_any _ _ (by omega) (by omega)).mono ?_; rintro e w' ⟨rfl, rfl⟩))
    go_ret2
    exact ⟨ret_two hq.out.symm rfl, rfl⟩
theorem specNext_any (s : Int) (w : World) :
    Calls Try.prog 26 #[.int .i64 s] w fun e w' => e = .returned (.tuple #[.int .i64 (nextI s), .bool (seedB s)]) ∧ w = w' := by
  cases hs : seedB s
  · have hq := Lib.hid (show nextI s = 0 by unfold nextI; rw [hs]; rfl)
    go_enter Try.func26, Try.ntmps26
    go_wp2_with (go_at_call 46; refine (l2Seed_any _ _).mono ?_; rintro e w' ⟨rfl, rfl⟩)
    go_ret2
    exact ⟨ret_two hq.out.symm rfl, rfl⟩
  · have hq := Lib.hid (show nextI s = nxt s by unfold nextI; rw [hs]; rfl)
    have hb := inB_iff.1 hs
    obtain ⟨g1, g2⟩ := hb
    go_enter Try.func26, Try.ntmps26
    go_wp2_with (first
      | (go_at_call 46; refine (l2Seed_any _ _).mono ?_; rintro e w' ⟨rfl, rfl⟩)
      | (go_at_call 47; refine (l2Next_any _ _ (by omega) (by omega)).mono ?_; rintro e w' ⟨rfl, rfl⟩))
    go_ret2
    exact ⟨ret_two hq.out.symm rfl, rfl⟩

set_option maxHeartbeats 800000 in
theorem implLot_any (A : Option Addr) (m c B : Nat) (xs : List Int) (n : Int) (w : World) (h : IntsAt w B A m xs) (hm : m ≤ 1048576) :
    Calls Try.prog 17 #[.slice A m c, .int .i64 n] w fun e w' => e = .returned (.tuple #[.int .i64 (lotI xs n), .bool (lotB xs n)]) ∧ w = w' := by
  have hl' := Lib.hid h.1
  cases hg : goodB xs
  · have hB := Lib.hid (show lotB xs n = false by unfold lotB; rw [hg]; rfl)
    have hq := Lib.hid (show lotI xs n = 0 by unfold lotI; rw [hB.out]; rfl)
    go_enter Try.func17, Try.ntmps17
    go_wp2_with (go_at_call 31; refine (implGood_any _ _ _ B xs _ h hm).mono ?_; rintro e w' ⟨rfl, rfl⟩)
    go_ret2
    exact ⟨ret_two hq.out.symm hB.out.symm, rfl⟩
  · by_cases hn : n < 0
    · have hB := Lib.hid (show lotB xs n = false by unfold lotB; rw [show decide (0 ≤ n) = false by simp; omega]; simp)
      have hq := Lib.hid (show lotI xs n = 0 by unfold lotI; rw [hB.out]; rfl)
      go_enter Try.func17, Try.ntmps17
      go_wp2_with (go_at_call 31; refine (implGood_any _ _ _ B xs _ h hm).mono ?_; rintro e w' ⟨rfl, rfl⟩)
      go_ret2
      exact ⟨ret_two hq.out.symm hB.out.symm, rfl⟩
    · have hb' := Lib.hid (bds_of_good hg)
      have hg' := Lib.hid hg
      have hr := Lib.hid h
      go_enter Try.func17, Try.ntmps17
      go_wp2_with (go_at_call 31; refine (implGood_any _ _ _ B xs _ h hm).mono ?_; rintro e w' ⟨rfl, rfl⟩)
      clear hg h
      go_loop [6, 18] (fun s i => ∃ k : Nat, k ≤ m ∧ i = .int .i64 k ∧ s = .int .i64 (sumL (xs.take k)) ∧ Hid (∀ j, j < k → sumL (xs.take (j + 1)) ≤ n)) (fun _ i => m - (intOf i).toNat)
      case atStart => exact ⟨0, Nat.zero_le _, rfl, rfl, Lib.hid (fun _ h => absurd h (Nat.not_lt_zero _))⟩
      case round =>
        obtain ⟨k, hk, rfl, rfl, hall⟩ := hrel
        by_cases hlt : k < m
        · obtain ⟨b, off, rfl, _, hc⟩ := hr.out.2 k hlt
          have hs := Lib.hid (sumL_step (s := xs) (k := k) (by rw [hl'.out]; exact hlt))
          obtain ⟨g1, g2⟩ := sumL_bd hb'.out k (by rw [hl'.out]; exact hk)
          obtain ⟨g3, g4⟩ := hb'.out k (by rw [hl'.out]; exact hlt)
          by_cases hd : n < sumL (xs.take k) + xs[k]?.getD 0
          · have hd' := Lib.hid hd
            go_wp2
            go_ret2
            have hw := sumL_whole hb'.out (j := k + 1) (by rw [hl'.out]; omega)
            have hd2 := hd'.out
            rw [← hs.out] at hd2
            have hB : lotB xs n = true := by unfold lotB; rw [hg'.out, show decide (0 ≤ n) = true by simp; omega, show decide (n < sumL xs) = true by simp; omega]; rfl
            exact ⟨ret_two (by unfold lotI; rw [hB, if_pos rfl, lotR_some (by rw [hl'.out]; exact hlt) hd2 hall.out]) hB.symm, rfl⟩
          · go_wp2
            go_round
            case rel =>
              refine ⟨k + 1, by omega, by go_num, by rw [hs.out], Lib.hid (fun j hj => ?_)⟩
              by_cases e : j = k
              · subst e; rw [hs.out]; omega
              · exact hall.out j (by omega)
            case measure => simp [intOf]; omega
        · go_wp2
          go_ret2
          have hlen := good_len hg'.out
          have hlast := hall.out (xs.length - 1) (by rw [hl'.out] at hlen ⊢; omega)
          rw [show xs.length - 1 + 1 = xs.length by omega, sumL_end (Nat.le_refl _)] at hlast
          have hB : lotB xs n = false := by unfold lotB; rw [show decide (n < sumL xs) = false by simp; omega]; simp
          exact ⟨ret_two (by unfold lotI; rw [hB]; rfl) hB.symm, rfl⟩

set_option maxHeartbeats 800000 in
theorem l2Lot_any (A : Option Addr) (m c B : Nat) (xs : List Int) (n : Int) (w : World) (h : IntsAt w B A m xs) (hm : m ≤ 1048576) (hg : goodB xs = true) (hn : 0 ≤ n) (hn2 : n < sumL xs) :
    Calls Try.prog 43 #[.slice A m c, .int .i64 n] w fun e w' => e = .returned (.int .i64 (lotR xs n)) ∧ w = w' := by
  have hl' := Lib.hid h.1
  have hb' := Lib.hid (bds_of_good hg)
  have hlen := Lib.hid (good_len hg)
  have hsum := (good_sum hg).2
  have hn3 := Lib.hid hn2
  have hn4 : n < 10000 := by omega
  have hr := Lib.hid h
  clear h hn2 hg hsum
  go_enter Try.func43, Try.ntmps43
  go_wp2
  go_loop [1, 9] (fun s i => ∃ k : Nat, k ≤ m ∧ i = .int .i64 k ∧ s = .int .i64 (n - sumL (xs.take k)) ∧ Hid (∀ j, j < k → sumL (xs.take (j + 1)) ≤ n) ∧ sumL (xs.take k) ≤ n) (fun _ i => m - (intOf i).toNat)
  case atStart => exact ⟨0, Nat.zero_le _, rfl, by show _ = Value.int .i64 (n - 0); simp, Lib.hid (fun _ h => absurd h (Nat.not_lt_zero _)), hn⟩
  case round =>
    obtain ⟨k, hk, rfl, rfl, hall, hle⟩ := hrel
    by_cases hlt : k < m
    · obtain ⟨b, off, rfl, _, hc⟩ := hr.out.2 k hlt
      have hs := Lib.hid (sumL_step (s := xs) (k := k) (by rw [hl'.out]; exact hlt))
      obtain ⟨g1, g2⟩ := sumL_bd hb'.out k (by rw [hl'.out]; exact hk)
      obtain ⟨g3, g4⟩ := hb'.out k (by rw [hl'.out]; exact hlt)
      by_cases hd : n - sumL (xs.take k) < xs[k]?.getD 0
      · go_wp2
        go_ret
        refine ⟨ret_int ?_, rfl⟩
        rw [lotR_some (by rw [hl'.out]; exact hlt) (by rw [hs.out]; omega) hall.out]
      · go_wp2
        go_round
        case rel =>
          refine ⟨k + 1, by omega, by go_num, by rw [hs.out]; congr 1; omega, Lib.hid (fun j hj => ?_), by rw [hs.out]; omega⟩
          by_cases e : j = k
          · subst e; rw [hs.out]; omega
          · exact hall.out j (by omega)
        case measure => simp [intOf]; omega
    · exfalso
      have hlast := hall.out (xs.length - 1) (by have := hlen.out; rw [hl'.out] at this ⊢; omega)
      rw [show xs.length - 1 + 1 = xs.length by have := hlen.out; omega, sumL_end (Nat.le_refl _)] at hlast
      have := hn3.out; omega

set_option maxHeartbeats 400000 in
theorem specLot_any (A : Option Addr) (m c B : Nat) (xs : List Int) (n : Int) (w : World) (h : IntsAt w B A m xs) (hm : m ≤ 1048576) :
    Calls Try.prog 18 #[.slice A m c, .int .i64 n] w fun e w' => e = .returned (.tuple #[.int .i64 (lotI xs n), .bool (lotB xs n)]) ∧ w = w' := by
  cases hg : goodB xs
  · have hB := Lib.hid (show lotB xs n = false by unfold lotB; rw [hg]; rfl)
    have hq := Lib.hid (show lotI xs n = 0 by unfold lotI; rw [hB.out]; rfl)
    go_enter Try.func18, Try.ntmps18
    go_wp2_with (go_at_call 42; refine (specGood_any _ _ _ B xs _ h hm).mono ?_; rintro e w' ⟨rfl, rfl⟩)
    go_ret2
    exact ⟨ret_two hq.out.symm hB.out.symm, rfl⟩
  · by_cases hn : n < 0
    · have hB := Lib.hid (show lotB xs n = false by unfold lotB; rw [show decide (0 ≤ n) = false by simp; omega]; simp)
      have hq := Lib.hid (show lotI xs n = 0 by unfold lotI; rw [hB.out]; rfl)
      go_enter Try.func18, Try.ntmps18
      go_wp2_with (go_at_call 42; refine (specGood_any _ _ _ B xs _ h hm).mono ?_; rintro e w' ⟨rfl, rfl⟩)
      go_ret2
      exact ⟨ret_two hq.out.symm hB.out.symm, rfl⟩
    · have hb := bds_of_good hg
      by_cases hn2 : n < sumL xs
      · have hB := Lib.hid (show lotB xs n = true by unfold lotB; rw [hg, show decide (0 ≤ n) = true by simp; omega, show decide (n < sumL xs) = true by simp; omega]; rfl)
        have hq := Lib.hid (show lotI xs n = lotR xs n by unfold lotI; rw [hB.out]; rfl)
        go_enter Try.func18, Try.ntmps18
        go_wp2_with (first
          | (go_at_call 42; refine (specGood_any _ _ _ B xs _ h hm).mono ?_; rintro e w' ⟨rfl, rfl⟩)
          | (go_at_call 41; refine (specSum_any _ _ _ B xs _ h hm hb).mono ?_; rintro e w' ⟨rfl, rfl⟩)
          | (go_at_call 43; refine (l2Lot_any _ _ _ B xs n _ h hm hg (by omega) hn2).mono ?_; rintro e w' ⟨rfl, rfl⟩))
        go_ret2
        exact ⟨ret_two hq.out.symm hB.out.symm, rfl⟩
      · have hB := Lib.hid (show lotB xs n = false by unfold lotB; rw [show decide (n < sumL xs) = false by simp; omega]; simp)
        have hq := Lib.hid (show lotI xs n = 0 by unfold lotI; rw [hB.out]; rfl)
        have hn3 : sumL xs ≤ n := by omega
        clear hn2
        go_enter Try.func18, Try.ntmps18
        go_wp2_with (first
          | (go_at_call 42; refine (specGood_any _ _ _ B xs _ h hm).mono ?_; rintro e w' ⟨rfl, rfl⟩)
          | (go_at_call 41; refine (specSum_any _ _ _ B xs _ h hm hb).mono ?_; rintro e w' ⟨rfl, rfl⟩))
        go_ret2
        exact ⟨ret_two hq.out.symm hB.out.symm, rfl⟩

theorem proposer_any (A : Option Addr) (m c B : Nat) (xs : List Int) (s : Int) (w : World) (h : IntsAt w B A m xs) (hm : m ≤ 1048576) (hg : goodB xs = true) (h0 : 0 ≤ s) (h1 : s ≤ 65520) :
    Calls Try.prog 34 #[.slice A m c, .int .i64 s] w fun e w' => e = .returned (.int .i64 (propI xs s)) ∧ w = w' := by
  have hb := bds_of_good hg
  obtain ⟨p1, p2⟩ := good_sum hg
  obtain ⟨a1, a2⟩ := prop_arg hg s
  have hB := Lib.hid (show lotB xs (s % sumL xs) = true by unfold lotB; rw [hg, show decide (0 ≤ s % sumL xs) = true by simpa using a1, show decide (s % sumL xs < sumL xs) = true by simpa using a2]; rfl)
  have hq := Lib.hid (show lotI xs (s % sumL xs) = propI xs s by unfold lotI; rw [hB.out]; rfl)
  go_enter Try.func34, Try.ntmps34
  go_wp2_with (first
    | (go_at_call 48; refine (implSum_any _ _ _ B xs _ h hm hb).mono ?_; rintro e w' ⟨rfl, rfl⟩)
    | (go_at_call 17; refine (implLot_any _ _ _ B xs _ _ h hm).mono ?_; rintro e w' ⟨rfl, rfl⟩))
  go_ret
  exact ⟨ret_int hq.out, rfl⟩

theorem l2Good_any (A : Option Addr) (m c B : Nat) (xs : List Int) (s : Int) (w : World) (h : IntsAt w B A m xs) (hm : m ≤ 1048576) :
    Calls Try.prog 35 #[.slice A m c, .int .i64 s] w fun e w' => e = .returned (.bool (tgB xs s)) ∧ w = w' := by
  cases hg : goodB xs
  · have hq := Lib.hid (show tgB xs s = false by unfold tgB; rw [hg]; rfl)
    go_enter Try.func35, Try.ntmps35
    go_wp2_with (go_at_call 42; refine (specGood_any _ _ _ B xs _ h hm).mono ?_; rintro e w' ⟨rfl, rfl⟩)
    go_ret
    exact ⟨ret_bool hq.out.symm, rfl⟩
  · have hq := Lib.hid (show tgB xs s = seedB s by unfold tgB; rw [hg]; rfl)
    go_enter Try.func35, Try.ntmps35
    go_wp2_with (first
      | (go_at_call 42; refine (specGood_any _ _ _ B xs _ h hm).mono ?_; rintro e w' ⟨rfl, rfl⟩)
      | (go_at_call 46; refine (l2Seed_any _ _).mono ?_; rintro e w' ⟨rfl, rfl⟩))
    go_ret
    exact ⟨ret_bool hq.out.symm, rfl⟩
end Go.Proofs.Ytagppnmokmnofaa
