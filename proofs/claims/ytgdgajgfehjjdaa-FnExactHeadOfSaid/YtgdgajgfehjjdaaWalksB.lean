/- What is proved here: what the model's functions on stakes, the law's copy and its comparison return, at every slice of integers. No conditions. -/
import Derived.Test.YtgdgajgfehjjdaaWalksA
import Derived.RegionTactic
namespace Go.Proofs.Ytgdgajgfehjjdaa
open Go.RowKit

theorem info3 : (Try.prog.info? 3).map (fun i => (i.zero, i.size, i.bytes)) = some (some (.int .i64 0), 1, 8) := by kernel_rfl

set_option maxHeartbeats 400000 in
theorem l1All_any (A : Option Addr) (n c B : Nat) (xs : List Int) (lo hi : Int) (w : World) (h : IntsAt w B A n xs) (hn : n ≤ 1048576) :
    Calls Try.prog 148 #[.slice A n c, .int .i64 lo, .int .i64 hi] w fun e w' => e = .returned (.bool (allB xs lo hi)) ∧ w = w' := by
  have hl' := Lib.hid h.1
  have hr := Lib.hid h; clear h
  go_enter Try.func148, Try.ntmps148
  go_wp2
  go_loop [11] (fun i => ∃ k : Nat, k ≤ n ∧ i = .int .i64 k ∧ allB (xs.take k) lo hi = true) (fun i => n - (intOf i).toNat)
  case atStart => exact ⟨0, Nat.zero_le _, rfl, allB_nil _ _⟩
  case round =>
    obtain ⟨k, hk, rfl, hall⟩ := hrel
    have hall' := Lib.hid hall; clear hall
    by_cases hlt : k < n
    · obtain ⟨b, off, rfl, _, hc⟩ := hr.out.2 k hlt
      cases hx : inB (xs[k]?.getD 0) lo hi
      · go_wp2_with (go_at_call 140; refine (l1In_any _ _ _ _).mono ?_; rintro e w' ⟨rfl, rfl⟩)
        go_ret
        exact ⟨ret_bool (allB_no (by rw [hl'.out]; exact hlt) hx).symm, rfl⟩
      · go_wp2_with (go_at_call 140; refine (l1In_any _ _ _ _).mono ?_; rintro e w' ⟨rfl, rfl⟩)
        go_round
        case rel => exact ⟨k + 1, by omega, by go_num, allB_step (by rw [hl'.out]; exact hlt) hall'.out hx⟩
        case measure => simp [intOf]; omega
    · go_wp2
      go_ret
      exact ⟨ret_bool (allB_end (by rw [hl'.out]; omega) hall'.out).symm, rfl⟩

theorem specGood_any (A : Option Addr) (n c B : Nat) (xs : List Int) (w : World) (h : IntsAt w B A n xs) (hn : n ≤ 1048576) :
    Calls Try.prog 155 #[.slice A n c] w fun e w' => e = .returned (.bool (goodB xs)) ∧ w = w' := by
  have hl' := Lib.hid h.1
  have hr := Lib.hid h; clear h
  cases hx : inB (n : Int) 1 10
  · have hg := Lib.hid (show goodB xs = false by unfold goodB; rw [hl'.out, hx]; rfl)
    go_enter Try.func155, Try.ntmps155
    go_wp2_with (go_at_call 140; refine (l1In_any _ _ _ _).mono ?_; rintro e w' ⟨rfl, rfl⟩)
    go_ret
    exact ⟨ret_bool hg.out.symm, rfl⟩
  · have hg := Lib.hid (show goodB xs = allB xs 1 1000 by unfold goodB; rw [hl'.out, hx]; rfl)
    go_enter Try.func155, Try.ntmps155
    go_wp2_with (first
      | (go_at_call 140; refine (l1In_any _ _ _ _).mono ?_; rintro e w' ⟨rfl, rfl⟩)
      | (go_at_call 148; refine (l1All_any _ _ _ B xs _ _ _ hr.out hn).mono ?_; rintro e w' ⟨rfl, rfl⟩))
    go_ret
    exact ⟨ret_bool hg.out.symm, rfl⟩

set_option maxHeartbeats 400000 in
theorem toIntS_any (A : Option Addr) (n c : Nat) (xs : List Int) (w : World) (h : IntsAt w w.heap.size A n xs) (hn : n ≤ 1048576) :
    Calls Try.prog 18 #[.slice A n c] w fun e w' => e = .returned (.slice (some ⟨w.heap.size, 0, none⟩) n n) ∧
      w'.rowIs w.heap.size 3 n (fun i => .int .i64 (xs[i]?.getD 0)) ∧ Below w.heap.size w w' ∧ w.heap.size < w'.heap.size := by
  have hl' := Lib.hid h.1
  have hr := Lib.hid h; clear h
  have hmk := fun W => run_make_row' (P := Try.prog) 23 3 (.int .i64 0) 8 Try.underlying23 info3 rfl .i64 .i64 n (by omega) (by omega) W
  go_enter Try.func18, Try.ntmps18
  go_wp2
  go_loopw [4] (fun i wr => ∃ k : Nat, k ≤ n ∧ i = .int .i64 k ∧ wr.rowIs w.heap.size 3 n (fun j => if j < k then .int .i64 (xs[j]?.getD 0) else .int .i64 0) ∧ Below w.heap.size w wr ∧ w.heap.size < wr.heap.size) (fun i _ => n - (intOf i).toNat)
  case atStart => exact ⟨0, Nat.zero_le _, rfl, (World.rowIs_made w (.int .i64 0) n 3).congr (by intro i hi; simp), (Below.refl _ _).alloc (Nat.le_refl _) _, by simp⟩
  case round =>
    obtain ⟨k, hk, rfl, hrow, hbel, hsz⟩ := hrel
    by_cases hlt : k < n
    · obtain ⟨b, off, rfl, hb, hc0⟩ := hr.out.2 k hlt
      have hc := (hbel.cell (p := ⟨b, off + k, none⟩) hb).trans hc0
      have hd := hrow.cell hlt
      have hf := hrow.frozen k
      have hrow' := Lib.hid hrow; clear hrow hc0
      go_wp2
      go_roundw
      case rel =>
        refine ⟨k + 1, by omega, by go_num, (hrow'.out.set k _).congr ?_, hbel.setCell (by simp) _, by simpa using hsz⟩
        intro j hj
        by_cases e : j = k
        · subst e; simp
        · simp [e]; by_cases e2 : j < k
          · simp [e2, show j < k + 1 by omega]
          · simp [e2, show ¬ j < k + 1 by omega]
      case measure => simp [intOf]; omega
    · have hrow' := Lib.hid hrow; clear hrow
      go_wp2
      go_ret
      exact ⟨rfl, hrow'.out.congr (by intro j hj; simp [show j < k by omega]), hbel, hsz⟩
end Go.Proofs.Ytgdgajgfehjjdaa
