/- What is proved here: what the functions on groups of voters return, at every two slices of integers. No conditions. -/
import Derived.Test.YtgdgajgfehjjdaaWalksC
import Derived.Test.YtgdgajgfehjjdaaGroup
namespace Go.Proofs.Ytgdgajgfehjjdaa
open Go.RowKit

def lastOf (xs : List Int) (k : Nat) : Int := if k = 0 then -1 else xs[k-1]?.getD 0
theorem risAt_last {xs : List Int} {k : Nat} (h1 : lastOf xs k < xs[k]?.getD 0) (h2 : xs[k]?.getD 0 < 10) (h0 : -1 ≤ lastOf xs k) : risAt xs 0 9 k = true := by
  rw [risAt_iff]
  unfold lastOf at *
  split at h1
  · exact ⟨⟨by omega, by omega⟩, by omega⟩
  · rename_i hk; simp only [hk, if_false] at h0; exact ⟨⟨by omega, by omega⟩, fun _ => h1⟩
theorem risAt_not {xs : List Int} {k : Nat} (h : xs[k]?.getD 0 ≤ lastOf xs k ∨ 10 ≤ xs[k]?.getD 0) : risAt xs 0 9 k = false := by
  cases e : risAt xs 0 9 k
  · rfl
  · rw [risAt_iff] at e
    unfold lastOf at h
    split at h
    · omega
    · have := e.2 (by omega); omega

set_option maxHeartbeats 800000 in
theorem isGroup_any (A : Option Addr) (n c B : Nat) (xs : List Int) (w : World) (h : IntsAt w B A n xs) (hn : n ≤ 1048576) :
    Calls Try.prog 161 #[.slice A n c] w fun e w' => e = .returned (.bool (risB xs 0 9)) ∧ w = w' := by
  have hl' := Lib.hid h.1
  have hr := Lib.hid h; clear h
  go_enter Try.func161, Try.ntmps161
  go_wp2
  go_loop [3, 8] (fun l i => ∃ k : Nat, k ≤ n ∧ i = .int .i64 k ∧ l = .int .i64 (lastOf xs k) ∧ -1 ≤ lastOf xs k ∧ Hid (∀ j, j < k → risAt xs 0 9 j = true)) (fun _ i => n - (intOf i).toNat)
  case atStart => exact ⟨0, Nat.zero_le _, rfl, rfl, by simp [lastOf], Lib.hid (fun j hj => absurd hj (Nat.not_lt_zero _))⟩
  case round =>
    obtain ⟨k, hk, rfl, rfl, hm1, hall⟩ := hrel
    by_cases hlt : k < n
    · obtain ⟨b, off, rfl, _, hc⟩ := hr.out.2 k hlt
      by_cases h1 : xs[k]?.getD 0 ≤ lastOf xs k
      · go_wp2
        go_ret
        exact ⟨ret_bool (risB_no (k := k) (by rw [hl'.out]; exact hlt) (risAt_not (.inl h1))).symm, rfl⟩
      · by_cases h2 : 10 ≤ xs[k]?.getD 0
        · go_wp2
          go_ret
          exact ⟨ret_bool (risB_no (k := k) (by rw [hl'.out]; exact hlt) (risAt_not (.inr h2))).symm, rfl⟩
        · go_wp2
          go_round
          case rel =>
            refine ⟨k + 1, by omega, by go_num, by simp [lastOf], by simp [lastOf]; omega, Lib.hid (fun j hj => ?_)⟩
            by_cases e : j = k
            · subst e; exact risAt_last (by omega) (by omega) hm1
            · exact hall.out j (by omega)
          case measure => simp [intOf]; omega
    · go_wp2
      go_ret
      exact ⟨ret_bool (risB_iff.2 (fun j hj => hall.out j (by rw [hl'.out] at hj; omega))).symm, rfl⟩
end Go.Proofs.Ytgdgajgfehjjdaa
