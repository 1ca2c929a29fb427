/- What is proved here: what MaskOf returns, in the program and in the model, at every slice of integers. No conditions but that the table of bits holds what its text lays. -/
import Derived.Test.YtpopefopmbmgaaaDoorWalksF
import Derived.Test.YtpopefopmbmgaaaDoorMasks
namespace Go.Proofs.YtpopefopmbmgaaaDoor
open Go.RowKit

def mOf (who : List Int) : Int := if risB who 0 9 = true then (maskL who : Int) else 0

theorem l1Group_any (A : Option Addr) (n c B : Nat) (xs : List Int) (w : World) (h : IntsAt w B A n xs) (hn : n ≤ 1048576) :
    Calls Tryd.prog 58 #[.slice A n c] w fun e w' => e = .returned (.bool (risB xs 0 9)) ∧ w = w' := by
  go_enter Tryd.func58, Tryd.ntmps58
  go_wp2_with (go_at_call 62; refine (l1Rising_any _ _ _ B xs _ _ _ h hn).mono ?_; rintro e w' ⟨rfl, rfl⟩)
  go_ret
  exact ⟨rfl, rfl⟩

set_option maxHeartbeats 400000 in
theorem implMask_any (A : Option Addr) (n c B : Nat) (xs : List Int) (w : World) (h : IntsAt w B A n xs) (hn : n ≤ 1048576) (ht : TabOk w) :
    Calls Tryd.prog 27 #[.slice A n c] w fun e w' => e = .returned (.tuple #[.int .i64 (mOf xs), .bool (risB xs 0 9)]) ∧ w = w' := by
  have hl' := Lib.hid h.1
  cases hg : risB xs 0 9
  · have hq := Lib.hid (show mOf xs = 0 by unfold mOf; rw [hg]; rfl)
    go_enter Tryd.func27, Tryd.ntmps27
    go_wp2_with (go_at_call 57; refine (isGroup_any _ _ _ B xs _ h hn).mono ?_; rintro e w' ⟨rfl, rfl⟩)
    go_ret2
    exact ⟨ret_two hq.out.symm rfl, rfl⟩
  · have hq := Lib.hid (show mOf xs = maskL xs by unfold mOf; rw [hg]; rfl)
    go_enter Tryd.func27, Tryd.ntmps27
    go_wp2_with (go_at_call 57; refine (isGroup_any _ _ _ B xs _ h hn).mono ?_; rintro e w' ⟨rfl, rfl⟩)
    have hr := Lib.hid h; clear h
    have hg' := Lib.hid hg; clear hg
    have ht' := Lib.hid ht; clear ht
    go_loop [4, 12] (fun t i => ∃ k : Nat, k ≤ n ∧ i = .int .i64 k ∧ t = .int .i64 (maskL (xs.take k))) (fun _ i => n - (intOf i).toNat)
    case atStart => exact ⟨0, Nat.zero_le _, rfl, rfl⟩
    case round =>
      obtain ⟨k, hk, rfl, rfl⟩ := hrel
      by_cases hlt : k < n
      · obtain ⟨b, off, rfl, _, hc⟩ := hr.out.2 k hlt
        have hkx : k < xs.length := by rw [hl'.out]; exact hlt
        have hs := Lib.hid (maskL_step hkx)
        obtain ⟨g1, g2⟩ := risB_in hg'.out hkx
        have g3 := maskL_lt hg'.out k (by omega)
        clear hkx
        have hc2 := ht'.out.cell (i := (xs[k]?.getD 0).toNat) (by omega)
        have hor := Lib.hid (or_i64 (maskL (xs.take k)) (bitN (xs[k]?.getD 0).toNat) (by omega) (by have := bitN_lt (k := (xs[k]?.getD 0).toNat) (by omega); omega))
        have hlt10 : xs[k]?.getD 0 < 10 := by omega
        go_wp2
        go_round
        case rel => exact ⟨k + 1, by omega, by go_num, by rw [hs.out, hor.out]⟩
        case measure => simp [intOf]; omega
      · go_wp2
        go_ret2
        exact ⟨ret_two (by rw [maskL_end (by rw [hl'.out]; omega), hq.out]) rfl, rfl⟩

set_option maxHeartbeats 400000 in
theorem specMask_any (A : Option Addr) (n c B : Nat) (xs : List Int) (w : World) (h : IntsAt w B A n xs) (hn : n ≤ 1048576) :
    Calls Tryd.prog 28 #[.slice A n c] w fun e w' => e = .returned (.tuple #[.int .i64 (mOf xs), .bool (risB xs 0 9)]) ∧ w = w' := by
  have hl' := Lib.hid h.1
  cases hg : risB xs 0 9
  · have hq := Lib.hid (show mOf xs = 0 by unfold mOf; rw [hg]; rfl)
    go_enter Tryd.func28, Tryd.ntmps28
    go_wp2_with (go_at_call 58; refine (l1Group_any _ _ _ B xs _ h hn).mono ?_; rintro e w' ⟨rfl, rfl⟩)
    go_ret2
    exact ⟨ret_two hq.out.symm rfl, rfl⟩
  · have hq := Lib.hid (show mOf xs = maskL xs by unfold mOf; rw [hg]; rfl)
    go_enter Tryd.func28, Tryd.ntmps28
    go_wp2_with (go_at_call 58; refine (l1Group_any _ _ _ B xs _ h hn).mono ?_; rintro e w' ⟨rfl, rfl⟩)
    have hr := Lib.hid h; clear h
    have hg' := Lib.hid hg; clear hg
    go_loop [4, 12] (fun t i => ∃ k : Nat, k ≤ n ∧ i = .int .i64 k ∧ t = .int .i64 (maskL (xs.take k))) (fun _ i => n - (intOf i).toNat)
    case atStart => exact ⟨0, Nat.zero_le _, rfl, rfl⟩
    case round =>
      obtain ⟨k, hk, rfl, rfl⟩ := hrel
      by_cases hlt : k < n
      · obtain ⟨b, off, rfl, _, hc⟩ := hr.out.2 k hlt
        have hkx : k < xs.length := by rw [hl'.out]; exact hlt
        have hs := Lib.hid (maskL_step hkx)
        obtain ⟨g1, g2⟩ := risB_in hg'.out hkx
        have g3 := maskL_lt hg'.out k (by omega)
        clear hkx
        have hor := Lib.hid (or_i64 (maskL (xs.take k)) (bitN (xs[k]?.getD 0).toNat) (by omega) (by have := bitN_lt (k := (xs[k]?.getD 0).toNat) (by omega); omega))
        have hlt10 : xs[k]?.getD 0 < 10 := by omega
        have hwr := Lib.hid (wrap_bit (k := (xs[k]?.getD 0).toNat) (by omega))
        go_wp2
        go_round
        case rel => exact ⟨k + 1, by omega, by go_num, by rw [hs.out, hwr.out, hor.out]⟩
        case measure => simp [intOf]; omega
      · go_wp2
        go_ret2
        exact ⟨ret_two (by rw [maskL_end (by rw [hl'.out]; omega), hq.out]) rfl, rfl⟩
end Go.Proofs.YtpopefopmbmgaaaDoor
