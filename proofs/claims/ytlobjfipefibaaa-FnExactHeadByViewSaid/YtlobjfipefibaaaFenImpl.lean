/- What is proved here: what the program's functions on cells that only read return: widthAt, sumOfFirst, sumBetween, areWeights, weightsIn. No conditions but the cells' number. -/
import Derived.Test.YtlobjfipefibaaaFen
import Derived.Test.YtlobjfipefibaaaOwn
import Derived.ScopeJumps
import Derived.WalkMore
namespace Go.Proofs.Ytlobjfipefibaaa
open Go.RowKit

theorem and_low : ∀ n : Nat, n < 65 → bits .and .i64 (n : Int) (-(n : Int)) = ((low n : Nat) : Int) := by decide +kernel

theorem wrap_add (a b : Int) : wrap64 (wrap64 a + b) = wrap64 (a + b) := by unfold wrap64; omega
theorem wrap_sub2 (a b : Int) : wrap64 (wrap64 a - wrap64 b) = wrap64 (a - b) := by unfold wrap64; omega

set_option maxHeartbeats 400000 in
theorem areWeights_any (A : Option Addr) (n c B : Nat) (xs : List Int) (w : World) (h : IntsAt w B A n xs) (hn : n ≤ 1048576) :
    Calls Try.prog 161 #[.slice A n c] w fun e w' => e = .returned (.bool (goodW xs)) ∧ w = w' := by
  have hl := h.1
  by_cases h1 : n < 1
  · have hg : goodW xs = false := by unfold goodW; rw [inB_low (by omega)]; rfl
    have hg' := Lib.hid hg; clear hg hl
    go_enter Try.func161, Try.ntmps161
    go_wp2
    go_ret
    exact ⟨ret_bool hg'.out.symm, rfl⟩
  · by_cases h2 : 32 < n
    · have hg : goodW xs = false := by unfold goodW; rw [inB_high (by omega)]; rfl
      have hg' := Lib.hid hg; clear hg hl
      go_enter Try.func161, Try.ntmps161
      go_wp2
      go_ret
      exact ⟨ret_bool hg'.out.symm, rfl⟩
    · have hin : inB xs.length 1 32 = true := inB_true (by omega) (by omega)
      have hin' := Lib.hid hin; clear hin
      have hl' := Lib.hid hl; clear hl
      have hr := Lib.hid h; clear h
      go_enter Try.func161, Try.ntmps161
      go_wp2
      go_loop [15] (fun i => ∃ k : Nat, k ≤ n ∧ i = .int .i64 k ∧ allB (xs.take k) 0 100000 = true) (fun i => n - (intOf i).toNat)
      case atStart => exact ⟨0, Nat.zero_le _, rfl, allB_nil _ _⟩
      case round =>
        obtain ⟨k, hk, rfl, hall⟩ := hrel
        have hall' := Lib.hid hall; clear hall
        by_cases hlt : k < n
        · obtain ⟨b, off, rfl, _, hc⟩ := hr.out.2 k hlt
          by_cases g1 : xs[k]?.getD 0 < 0
          · go_wp2
            go_ret
            exact ⟨ret_bool (by unfold goodW; rw [allB_no (by rw [hl'.out]; exact hlt) (inB_low g1)]; simp), rfl⟩
          · by_cases g2 : 100000 < xs[k]?.getD 0
            · go_wp2
              go_ret
              exact ⟨ret_bool (by unfold goodW; rw [allB_no (by rw [hl'.out]; exact hlt) (inB_high g2)]; simp), rfl⟩
            · go_wp2
              go_round
              case rel => exact ⟨k + 1, by omega, by go_num, allB_step (by rw [hl'.out]; exact hlt) hall'.out (inB_true (by omega) (by omega))⟩
              case measure => simp [intOf]; omega
        · go_wp2
          go_ret
          exact ⟨ret_bool (by unfold goodW; rw [hin'.out, allB_end (by rw [hl'.out]; omega) hall'.out]; rfl), rfl⟩

end Go.Proofs.Ytlobjfipefibaaa
