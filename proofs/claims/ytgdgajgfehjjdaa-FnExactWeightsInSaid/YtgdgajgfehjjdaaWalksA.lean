/- What is proved here: what the functions on stakes return, at every slice of integers. No conditions. -/
import Derived.Test.YtgdgajgfehjjdaaProg
import Derived.Test.YtgdgajgfehjjdaaWords
import Derived.Deep.QuietTactic
import Derived.BigQuiet
namespace Go.Proofs.Ytgdgajgfehjjdaa
open Go.RowKit

theorem l1In_any (n lo hi : Int) (w : World) :
    Calls Try.prog 140 #[.int .i64 n, .int .i64 lo, .int .i64 hi] w fun e w' => e = .returned (.bool (inB n lo hi)) ∧ w = w' := by
  by_cases h1 : lo ≤ n
  · by_cases h2 : n ≤ hi
    · go_enter Try.func140, Try.ntmps140
      go_wp2
      go_ret
      exact ⟨ret_bool (inB_true h1 h2).symm, rfl⟩
    · go_enter Try.func140, Try.ntmps140
      go_wp2
      go_ret
      exact ⟨ret_bool (inB_high (by omega)).symm, rfl⟩
  · go_enter Try.func140, Try.ntmps140
    go_wp2
    go_ret
    exact ⟨ret_bool (inB_low (by omega)).symm, rfl⟩

set_option maxHeartbeats 400000 in
theorem implGood_any (A : Option Addr) (n c B : Nat) (xs : List Int) (w : World) (h : IntsAt w B A n xs) (hn : n ≤ 1048576) :
    Calls Try.prog 138 #[.slice A n c] w fun e w' => e = .returned (.bool (goodB xs)) ∧ w = w' := by
  have hl := h.1
  by_cases h1 : n < 1
  · have hg : goodB xs = false := by unfold goodB; rw [inB_low (by omega)]; rfl
    have hg' := Lib.hid hg; clear hg hl
    go_enter Try.func138, Try.ntmps138
    go_wp2
    go_ret
    exact ⟨ret_bool hg'.out.symm, rfl⟩
  · by_cases h2 : 10 < n
    · have hg : goodB xs = false := by unfold goodB; rw [inB_high (by omega)]; rfl
      have hg' := Lib.hid hg; clear hg hl
      go_enter Try.func138, Try.ntmps138
      go_wp2
      go_ret
      exact ⟨ret_bool hg'.out.symm, rfl⟩
    · have hin : inB xs.length 1 10 = true := inB_true (by omega) (by omega)
      have hin' := Lib.hid hin; clear hin
      have hl' := Lib.hid hl; clear hl
      have hr := Lib.hid h; clear h
      go_enter Try.func138, Try.ntmps138
      go_wp2
      go_loop [15] (fun i => ∃ k : Nat, k ≤ n ∧ i = .int .i64 k ∧ allB (xs.take k) 1 1000 = true) (fun i => n - (intOf i).toNat)
      case atStart => exact ⟨0, Nat.zero_le _, rfl, allB_nil _ _⟩
      case round =>
        obtain ⟨k, hk, rfl, hall⟩ := hrel
        have hall' := Lib.hid hall; clear hall
        by_cases hlt : k < n
        · obtain ⟨b, off, rfl, _, hc⟩ := hr.out.2 k hlt
          by_cases g1 : xs[k]?.getD 0 < 1
          · go_wp2
            go_ret
            exact ⟨ret_bool (by unfold goodB; rw [allB_no (by rw [hl'.out]; exact hlt) (inB_low g1)]; simp), rfl⟩
          · by_cases g2 : 1000 < xs[k]?.getD 0
            · go_wp2
              go_ret
              exact ⟨ret_bool (by unfold goodB; rw [allB_no (by rw [hl'.out]; exact hlt) (inB_high g2)]; simp), rfl⟩
            · go_wp2
              go_round
              case rel => exact ⟨k + 1, by omega, by go_num, allB_step (by rw [hl'.out]; exact hlt) hall'.out (inB_true (by omega) (by omega))⟩
              case measure => simp [intOf]; omega
        · go_wp2
          go_ret
          exact ⟨ret_bool (by unfold goodB; rw [hin'.out, allB_end (by rw [hl'.out]; omega) hall'.out]; rfl), rfl⟩
end Go.Proofs.Ytgdgajgfehjjdaa
