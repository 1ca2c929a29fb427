/- What is proved here: what WeightOf and IsGreat return, in the program and in the model, at every two slices of integers. No conditions. -/
import Derived.Test.YtgdgajgfehjjdaaWalksE
namespace Go.Proofs.Ytgdgajgfehjjdaa
open Go.RowKit

theorem of_parts {s xs : List Int} {m : Nat} (hl : s.length = m) (h : ofB s xs = true) : Bds s ∧ Vot m xs ∧ m ≤ 10 := by
  unfold ofB at h
  rw [Bool.and_eq_true, hl] at h
  have := (goodB_iff.1 h.1).1
  exact ⟨bds_of_good h.1, vot_of_ris h.2, by omega⟩
theorem sumL_all {s : List Int} (h : Bds s) : 0 ≤ sumL s ∧ sumL s ≤ 1000 * s.length := by
  have := sumL_bd h s.length (Nat.le_refl _)
  rwa [List.take_length] at this

set_option maxHeartbeats 400000 in
theorem implWeightOf_any (A A' : Option Addr) (m n c c' B : Nat) (s xs : List Int) (w : World) (hS : IntsAt w B A' m s) (h : IntsAt w B A n xs) (hn : n ≤ 1048576) (hm : m ≤ 1048576) :
    Calls Try.prog 109 #[.slice A' m c', .slice A n c] w fun e w' => e = .returned (.tuple #[.int .i64 (wOf s xs), .bool (ofB s xs)]) ∧ w = w' := by
  cases hg : ofB s xs
  · have hq := Lib.hid (show wOf s xs = 0 by unfold wOf; rw [hg]; rfl)
    go_enter Try.func109, Try.ntmps109
    go_wp2_with (go_at_call 146; refine (isGroupOf_any _ _ _ _ _ _ B s xs _ hS h hn hm).mono ?_; rintro e w' ⟨rfl, rfl⟩)
    go_ret2
    exact ⟨ret_two hq.out.symm rfl, rfl⟩
  · have hq := Lib.hid (show wOf s xs = wtL s xs by unfold wOf; rw [hg]; rfl)
    have hp := Lib.hid (of_parts hS.1 hg)
    have hl' := Lib.hid h.1
    have hb' := Lib.hid (bds_stakesOf hp.out.1 (by rw [hS.1]; exact hp.out.2.1))
    go_enter Try.func109, Try.ntmps109
    go_wp2_with (go_at_call 146; refine (isGroupOf_any _ _ _ _ _ _ B s xs _ hS h hn hm).mono ?_; rintro e w' ⟨rfl, rfl⟩)
    have hr := Lib.hid h; clear h
    have hrS := Lib.hid hS; clear hS
    go_loop [6, 15] (fun t i => ∃ k : Nat, k ≤ n ∧ i = .int .i64 k ∧ t = .int .i64 (sumL ((stakesOf s xs).take k))) (fun _ i => n - (intOf i).toNat)
    case atStart => exact ⟨0, Nat.zero_le _, rfl, rfl⟩
    case round =>
      obtain ⟨k, hk, rfl, rfl⟩ := hrel
      by_cases hlt : k < n
      · obtain ⟨b, off, rfl, _, hc⟩ := hr.out.2 k hlt
        have hkx : k < xs.length := by rw [hl'.out]; exact hlt
        have hs := Lib.hid (sumL_step (s := stakesOf s xs) (k := k) (by rw [stakesOf_len]; exact hkx))
        obtain ⟨g1, g2⟩ := sumL_bd hb'.out k (by rw [stakesOf_len]; omega)
        obtain ⟨g3, g4⟩ := hb'.out k (by rw [stakesOf_len]; exact hkx)
        have he := Lib.hid (stakesOf_get s xs hkx)
        rw [he.out] at g3 g4
        obtain ⟨g5, g6⟩ := hp.out.2.1 k hkx
        obtain ⟨b', off', rfl, _, hc'⟩ := hrS.out.2 (xs[k]?.getD 0).toNat (by omega)
        clear hkx
        go_wp2
        go_round
        case rel => exact ⟨k + 1, by omega, by go_num, by rw [hs.out, he.out]⟩
        case measure => simp [intOf]; omega
      · go_wp2
        go_ret2
        exact ⟨ret_two ((sumL_end (by rw [stakesOf_len, hl'.out]; omega)).trans hq.out.symm) rfl, rfl⟩

theorem wtL_bd {s xs : List Int} (h : Bds s) (hv : Vot s.length xs) : 0 ≤ wtL s xs ∧ wtL s xs ≤ 1000 * xs.length := by
  have := sumL_all (bds_stakesOf h hv)
  rwa [stakesOf_len] at this

end Go.Proofs.Ytgdgajgfehjjdaa
