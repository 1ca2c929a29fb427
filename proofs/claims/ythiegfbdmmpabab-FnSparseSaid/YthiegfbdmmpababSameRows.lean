/- What is proved here: the laws' comparison sameRows of two slices of slices that hold the same rows. No conditions. -/
import Derived.Test.YthiegfbdmmpababRowsMarks
import Derived.Test.YthiegfbdmmpababLawHelp
namespace Go.Proofs.Ythiegfbdmmpabab
open Go.RowKit

/-- The laws' other comparison of two slices of slices that hold the same rows. -/
theorem sameRows_any (A A' : Option Addr) (n c c' B : Nat) (rows : List (List Int)) (w : World) (h : RowsAt w B A n rows) (h' : RowsAt w B A' n rows) (hs : short rows) (hn : n ≤ 1048576) :
    Calls Try.prog 48 #[.slice A n c, .slice A' n c'] w fun e w' => e = .returned (.bool true) ∧ ∃ m, w' = w.drewN m := by
  have hr := Lib.hid h; clear h
  have hr2 := Lib.hid h'; clear h'
  have hs' := Lib.hid hs; clear hs
  have hne : ((n : Int) != (n : Int)) = false := by simp
  go_enter Try.func48, Try.ntmps48
  go_wp2_with fail
  go_loopw [13] (fun i wr => ∃ k : Nat, k ≤ n ∧ i = .int .i64 k ∧ ∃ m, wr = w.drewN m) (fun i _ => n - (intOf i).toNat)
  case atStart => exact ⟨0, Nat.zero_le _, rfl, 0, rfl⟩
  case round =>
    obtain ⟨k, hk, rfl, m, hm⟩ := hrel
    have hmh := Lib.hid hm
    by_cases hlt : k < n
    · obtain ⟨b, off, Ai, ci, rfl, _, hc0, hi⟩ := hr.out.row k hlt
      obtain ⟨b', off', Aj, cj, rfl, _, hc0', hj⟩ := hr2.out.row k hlt
      have hc : wr.cell? ⟨b, off + k, none⟩ = some (.slice Ai (rowG rows k).length ci) := by rw [hm]; exact hc0
      have hc' : wr.cell? ⟨b', off' + k, none⟩ = some (.slice Aj (rowG rows k).length cj) := by rw [hm]; exact hc0'
      have hi' := Lib.hid (show IntsAt wr B Ai (rowG rows k).length (rowG rows k) by rw [hm]; exact hi)
      have hj' := Lib.hid (show IntsAt wr B Aj (rowG rows k).length (rowG rows k) by rw [hm]; exact hj)
      have hl := hs'.out k
      have hq := Lib.hid (show eqB (rowG rows k) (rowG rows k) = true from eqB_yes rfl (fun _ _ => rfl))
      clear hi hj hm hc0 hc0'
      have hcon := Lib.hid (fun (q : Nat) => (show Calls Try.prog 13 #[.slice Ai (rowG rows k).length ci, .slice Aj (rowG rows k).length cj] (wr.drewN q) (fun e w'' => e = .returned (.bool true) ∧ ∃ m', w'' = wr.drewN m') from Calls.quiet_of (by
        have := sameInts_any Ai Aj _ _ ci cj B _ _ (wr.drewN q) hi'.out hj'.out (by omega) (by omega)
        rw [hq.out] at this
        exact this)))
      generalize (rowG rows k).length = L at hc hc' hcon
      go_wp2_with fail
      go_quiet ((go_at_call 13; exact hcon.out _))
      go_wp2_with fail
      go_roundw
      case rel => exact ⟨k + 1, by omega, by go_num, _, by rw [hmh.out]; exact World.drewN_drewN _ _ _⟩
      case measure => simp [intOf]; omega
    · clear hm
      go_wp2_with fail
      go_ret
      exact ⟨rfl, m, hmh.out⟩

end Go.Proofs.Ythiegfbdmmpabab
