/- What is proved here: what the program's and the model's RunsOutAt return; the law on RunsOutAt returns true at every argument, and writes nothing that was there. No conditions. -/
import Derived.Test.YtgdgajgfehjjdabTrimSpec
import Derived.Test.YtgdgajgfehjjdabOpenVotes
namespace Go.Proofs.Ytgdgajgfehjjdab
open Go.RowKit

def runB (y keep : Int) : Bool := nowB y && keepB keep
def runR (y keep : Int) : Int := if runB y keep = true then y + keep + 1 else 0
theorem run_iff {y keep : Int} : runB y keep = true ↔ (1 ≤ y ∧ y ≤ 4000) ∧ 1 ≤ keep ∧ keep ≤ 100 := by
  unfold runB nowB keepB
  rw [Bool.and_eq_true, inB_iff, inB_iff]

set_option maxRecDepth 100000 in
set_option maxHeartbeats 800000 in
theorem implRuns_any (x y z keep : Int) (w : World) : Calls Try.prog 22 #[.agg #[.int .i64 x, .int .i64 y, .int .i64 z], .int .i64 keep] w (UpPost w (.tuple #[.int .i64 (runR y keep), .bool (runB y keep)])) := by
  have r3 := three_cells w x y z 37
  have hb := Lib.hid (bx_below w (.cells #[.int .i64 x, .int .i64 y, .int .i64 z] 37))
  have c1 := r3.cell (i := 1) (by omega)
  simp only [if_true, if_false, show (1 : Nat) ≠ 0 by decide] at c1
  clear r3
  cases h1 : nowB y
  · have hr := Lib.hid (show runB y keep = false by unfold runB; rw [h1]; rfl)
    have hv := Lib.hid (show runR y keep = 0 by unfold runR; rw [if_neg (by rw [hr.out]; decide)])
    go_enter Try.func22, Try.ntmps22
    go_wp2_with (go_at_call 96; refine (isSlot_any y _).mono ?_; rintro e w2 ⟨rfl, rfl⟩; rw [h1])
    go_ret2
    exact ⟨ret_two hv.out.symm hr.out.symm, hb.out⟩
  · cases h2 : keepB keep
    · have hr := Lib.hid (show runB y keep = false by unfold runB; rw [h2]; simp)
      have hv := Lib.hid (show runR y keep = 0 by unfold runR; rw [if_neg (by rw [hr.out]; decide)])
      go_enter Try.func22, Try.ntmps22
      go_wp2_with (first
        | (go_at_call 96; refine (isSlot_any y _).mono ?_; rintro e w2 ⟨rfl, rfl⟩; rw [h1])
        | (go_at_call 97; refine (isPer_any keep _).mono ?_; rintro e w2 ⟨rfl, rfl⟩; rw [h2]))
      go_ret2
      exact ⟨ret_two hv.out.symm hr.out.symm, hb.out⟩
    · have hr := Lib.hid (show runB y keep = true by unfold runB; rw [h1, h2]; rfl)
      have hv := Lib.hid (show runR y keep = y + keep + 1 by unfold runR; rw [if_pos hr.out])
      obtain ⟨b1, b2⟩ := run_iff.1 hr.out
      go_enter Try.func22, Try.ntmps22
      go_wp2_with (first
        | (go_at_call 96; refine (isSlot_any y _).mono ?_; rintro e w2 ⟨rfl, rfl⟩; rw [h1])
        | (go_at_call 97; refine (isPer_any keep _).mono ?_; rintro e w2 ⟨rfl, rfl⟩; rw [h2]))
      go_ret2
      exact ⟨ret_two (by rw [hv.out]) hr.out.symm, hb.out⟩
set_option maxRecDepth 100000 in
set_option maxHeartbeats 800000 in
theorem specRuns_any (x y z keep : Int) (w : World) : Calls Try.prog 28 #[.agg #[.int .i64 x, .int .i64 y, .int .i64 z], .int .i64 keep] w (UpPost w (.tuple #[.int .i64 (runR y keep), .bool (runB y keep)])) := by
  have r3 := three_cells w x y z 37
  have hb := Lib.hid (bx_below w (.cells #[.int .i64 x, .int .i64 y, .int .i64 z] 37))
  have c1 := r3.cell (i := 1) (by omega)
  simp only [if_true, if_false, show (1 : Nat) ≠ 0 by decide] at c1
  clear r3
  have q1 := Lib.hid (fun W => l1In_any y 1 4000 W)
  have q2 := Lib.hid (fun W => l1In_any keep 1 100 W)
  rw [show inB y 1 4000 = nowB y from rfl] at q1
  rw [show inB keep 1 100 = keepB keep from rfl] at q2
  cases h1 : nowB y
  · have hr := Lib.hid (show runB y keep = false by unfold runB; rw [h1]; rfl)
    have hv := Lib.hid (show runR y keep = 0 by unfold runR; rw [if_neg (by rw [hr.out]; decide)])
    rw [h1] at q1
    go_enter Try.func28, Try.ntmps28
    go_wp2_with (go_at_call 104; refine (q1.out _).mono ?_; rintro e w2 ⟨rfl, rfl⟩)
    go_ret2
    exact ⟨ret_two hv.out.symm hr.out.symm, hb.out⟩
  · rw [h1] at q1
    cases h2 : keepB keep
    · have hr := Lib.hid (show runB y keep = false by unfold runB; rw [h2]; simp)
      have hv := Lib.hid (show runR y keep = 0 by unfold runR; rw [if_neg (by rw [hr.out]; decide)])
      rw [h2] at q2
      have tk0 : True := trivial
      go_enter Try.func28, Try.ntmps28
      go_wp2_with (first
        | (clear tk0; go_at_call 104; refine (q1.out _).mono ?_; rintro e w2 ⟨rfl, rfl⟩)
        | (go_at_call 104; refine (q2.out _).mono ?_; rintro e w2 ⟨rfl, rfl⟩))
      go_ret2
      exact ⟨ret_two hv.out.symm hr.out.symm, hb.out⟩
    · have hr := Lib.hid (show runB y keep = true by unfold runB; rw [h1, h2]; rfl)
      have hv := Lib.hid (show runR y keep = y + keep + 1 by unfold runR; rw [if_pos hr.out])
      obtain ⟨b1, b2⟩ := run_iff.1 hr.out
      rw [h2] at q2
      have tk0 : True := trivial
      go_enter Try.func28, Try.ntmps28
      go_wp2_with (first
        | (clear tk0; go_at_call 104; refine (q1.out _).mono ?_; rintro e w2 ⟨rfl, rfl⟩)
        | (go_at_call 104; refine (q2.out _).mono ?_; rintro e w2 ⟨rfl, rfl⟩))
      go_ret2
      exact ⟨ret_two (by rw [hv.out]) hr.out.symm, hb.out⟩
set_option maxRecDepth 100000 in
set_option maxHeartbeats 800000 in
theorem lawRunsOutAt (x y z keep : Int) (w : World) : Calls Try.prog 8 #[.agg #[.int .i64 x, .int .i64 y, .int .i64 z], .int .i64 keep] w fun e w' => e = .returned (.bool true) ∧ Below w.heap.size w w' := by
  have r3 := three_cells w x y z 66
  have u := Lib.hid (bx_below w (.cells #[.int .i64 x, .int .i64 y, .int .i64 z] 66))
  have c0 := r3.cell (i := 0) (by omega)
  have c1 := r3.cell (i := 1) (by omega)
  have c2 := r3.cell (i := 2) (by omega)
  simp only [if_true, if_false, show (1 : Nat) ≠ 0 by decide, show (2 : Nat) ≠ 0 by decide, show (2 : Nat) ≠ 1 by decide] at c0 c1 c2
  have row := Lib.hid r3
  clear r3
  have hq0 : (runR y keep != runR y keep) = false := by simp
  have hq1 : (runB y keep != runB y keep) = false := by simp
  go_enter Try.func8, Try.ntmps8
  go_wp2_with (first
    | (go_at_call 53; refine (toVote_any x y z _).mono ?_; rintro e w1 ⟨rfl, b1⟩; replace u := Lib.hid (u.out.trans (b1.mono u.out.size)); replace row := Lib.hid (rowIs_below row.out b1 row.out.lt); clear b1 c0 c1 c2; have c0 := row.out.cell (i := 0) (by omega); have c1 := row.out.cell (i := 1) (by omega); have c2 := row.out.cell (i := 2) (by omega); simp only [if_true, if_false, show (1 : Nat) ≠ 0 by decide, show (2 : Nat) ≠ 0 by decide, show (2 : Nat) ≠ 1 by decide] at c0 c1 c2)
    | (go_at_call 28; refine (specRuns_any x y z keep _).mono ?_; rintro e w1 ⟨rfl, b1⟩; replace u := Lib.hid (u.out.trans (b1.mono u.out.size)); replace row := Lib.hid (rowIs_below row.out b1 row.out.lt); clear b1 c0 c1 c2; have c0 := row.out.cell (i := 0) (by omega); have c1 := row.out.cell (i := 1) (by omega); have c2 := row.out.cell (i := 2) (by omega); simp only [if_true, if_false, show (1 : Nat) ≠ 0 by decide, show (2 : Nat) ≠ 0 by decide, show (2 : Nat) ≠ 1 by decide] at c0 c1 c2)
    | (go_at_call 22; refine (implRuns_any x y z keep _).mono ?_; rintro e w1 ⟨rfl, b1⟩; replace u := Lib.hid (u.out.trans (b1.mono u.out.size)); clear b1 c0 c1 c2))
  go_ret
  exact ⟨rfl, u.out⟩
end Go.Proofs.Ytgdgajgfehjjdab
