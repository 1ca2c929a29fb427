/- What is proved here: what the model's l6Vote, l6Less, l6Both and GoodPool return. No conditions but lengths. -/
import Derived.Test.YtgdgajgfehjjdaaVotePool
import Derived.Deep.RegionHeld3
namespace Go.Proofs.Ytgdgajgfehjjdaa
open Go.RowKit

theorem quiet_l1In_eq {w : World} {n : Nat} {x lo hi : Int} {b : Bool} (h : inB x lo hi = b) : Calls Try.prog 140 #[.int .i64 x, .int .i64 lo, .int .i64 hi] (w.drewN n) fun e w'' => e = .returned (.bool b) ∧ ∃ m, w'' = w.drewN m := by
  subst h; exact quiet_l1In x lo hi

set_option maxRecDepth 100000 in
set_option maxHeartbeats 1600000 in
theorem l6Vote_any (A : Option Addr) (n c : Nat) (ts : List Blk) (A' : Option Addr) (n' c' : Nat) (x y z : Int) (w : World) (h : BlksAt w w.heap.size A n ts) (_hn : n ≤ 1048576) (hn' : n' ≤ 1048576) :
    Calls Try.prog 91 #[.slice A n c, .slice A' n' c', .agg #[.int .i64 x, .int .i64 y, .int .i64 z]] w (UpPost w (.bool (voteOk ts n' (x, y, z)))) := by
  have hl := Lib.hid h.1
  have hh := Lib.hid h; clear h
  have r3 := three_cells w x y z 60
  have hb0 := bx_below w (.cells #[.int .i64 x, .int .i64 y, .int .i64 z] 60)
  obtain ⟨W, hW⟩ : ∃ W, w.alloc (.cells #[.int .i64 x, .int .i64 y, .int .i64 z] 60) = W := ⟨_, rfl⟩
  rw [hW] at r3 hb0
  have e0 := r3.cell (i := 0) (by omega)
  have e1 := r3.cell (i := 1) (by omega)
  have e2 := r3.cell (i := 2) (by omega)
  simp only [if_true, if_false, show (1 : Nat) ≠ 0 by decide, show (2 : Nat) ≠ 0 by decide, show (2 : Nat) ≠ 1 by decide] at e0 e1 e2
  have hb2 := Lib.hid hb0
  have hW' := Lib.hid hW
  obtain ⟨L, hL⟩ : ∃ L, (n' : Int) - 1 = L := ⟨_, rfl⟩
  have hw : IntKind.i64.wrap ((n' : Int) - 1) = L := by rw [← hL, IntKind.wrap_i64]; omega
  have hL' := Lib.hid hL
  clear r3 hL hn' hb0 hW
  cases g1 : inB x 0 L
  · have hr := Lib.hid (show voteOk ts n' (x, y, z) = false by unfold voteOk; rw [hL'.out]; simp only [g1]; rfl)
    go_enter Try.func91, Try.ntmps91
    go_wp2_with fail
    rw [hW'.out]
    go_quiet ((go_at_call 140; exact quiet_l1In_eq (by assumption)))
    go_wp2_with fail
    go_ret
    exact ⟨ret_bool hr.out.symm, below_drewN hb2.out _⟩
  · cases g2 : inB y 1 4000
    · have hr := Lib.hid (show voteOk ts n' (x, y, z) = false by unfold voteOk; simp only [g2]; simp)
      go_enter Try.func91, Try.ntmps91
      go_wp2_with fail
      rw [hW'.out]
      go_quiet ((go_at_call 140; exact quiet_l1In_eq (by assumption)))
      go_wp2_with fail
      go_ret
      exact ⟨ret_bool hr.out.symm, below_drewN hb2.out _⟩
    · by_cases g3 : 0 ≤ z
      · by_cases g4 : z < n
        · have d3 : decide (0 ≤ z) = true := decide_eq_true g3
          have d4 : decide (z < (n : Int)) = true := decide_eq_true g4
          obtain ⟨q, hq⟩ := Int.eq_ofNat_of_zero_le g3
          subst hq
          have hqn : q < n := by omega
          obtain ⟨tb, to, rfl, htb, _, ds⟩ := hh.out.2 q hqn
          obtain ⟨s, hsq⟩ : ∃ s, sloZ ts q = s := ⟨_, rfl⟩
          have dS := (hb2.out.cell (p := ⟨tb, to + q * 2 + 1, none⟩) htb).trans ds
          rw [show (ts[q]?.getD (0, 0)).2 = s from hsq] at dS
          have hin : inB (q : Int) 0 ((ts.length : Int) - 1) = true := inB_true (by omega) (by rw [hl.out]; omega)
          have hqI : (q : Int) < (n : Int) := by omega
          have hv := Lib.hid (show voteOk ts n' (x, y, (q : Int)) = decide (s ≤ y) by unfold voteOk; rw [hL'.out]; simp only [g1, g2, hin]; rw [Int.toNat_natCast, hsq]; rfl)
          clear ds hsq hin g4 g3
          by_cases g5 : s ≤ y
          · have d5 : decide (s ≤ y) = true := decide_eq_true g5
            have hr := Lib.hid (hv.out.trans (decide_eq_true g5))
            go_enter Try.func91, Try.ntmps91
            go_wp2_with fail
            rw [hW'.out]
            go_quiet ((go_at_call 140; exact quiet_l1In_eq (by assumption)))
            go_wp2_with fail
            go_ret
            exact ⟨ret_bool hr.out.symm, below_drewN hb2.out _⟩
          · have d5 : decide (s ≤ y) = false := decide_eq_false g5
            have hr := Lib.hid (hv.out.trans (decide_eq_false g5))
            go_enter Try.func91, Try.ntmps91
            go_wp2_with fail
            rw [hW'.out]
            go_quiet ((go_at_call 140; exact quiet_l1In_eq (by assumption)))
            go_wp2_with fail
            go_ret
            exact ⟨ret_bool hr.out.symm, below_drewN hb2.out _⟩
        · have d3 : decide (0 ≤ z) = true := decide_eq_true g3
          have d4 : decide (z < (n : Int)) = false := decide_eq_false g4
          have hr := Lib.hid (vote_no2 (ts := ts) (ns := n') (v := (x, y, z)) (.inr (by show (ts.length : Int) ≤ z; rw [hl.out]; omega)))
          go_enter Try.func91, Try.ntmps91
          go_wp2_with fail
          rw [hW'.out]
          go_quiet ((go_at_call 140; exact quiet_l1In_eq (by assumption)))
          go_wp2_with fail
          go_ret
          exact ⟨ret_bool hr.out.symm, below_drewN hb2.out _⟩
      · have d3 : decide (0 ≤ z) = false := decide_eq_false g3
        have hr := Lib.hid (vote_no2 (ts := ts) (ns := n') (v := (x, y, z)) (.inl (by show z < 0; omega)))
        go_enter Try.func91, Try.ntmps91
        go_wp2_with fail
        rw [hW'.out]
        go_quiet ((go_at_call 140; exact quiet_l1In_eq (by assumption)))
        go_wp2_with fail
        go_ret
        exact ⟨ret_bool hr.out.symm, below_drewN hb2.out _⟩

set_option maxRecDepth 100000 in
set_option maxHeartbeats 800000 in
theorem l6Less_any (a1 a2 a3 b1 b2 b3 : Int) (w : World) : Calls Try.prog 129 #[.agg #[.int .i64 a1, .int .i64 a2, .int .i64 a3], .agg #[.int .i64 b1, .int .i64 b2, .int .i64 b3]] w (UpPost w (.bool (lessV (a1, a2, a3) (b1, b2, b3)))) := by
  obtain ⟨W, hW, c1, c2, c3, d1, d2, d3, hb, hs⟩ := two_boxes w a1 a2 a3 b1 b2 b3 60
  have hb' := Lib.hid hb
  have hW' := Lib.hid hW
  clear hb hW
  have hr0 := Lib.hid (show lessV (a1, a2, a3) (b1, b2, b3) = (decide (a1 < b1) || (a1 == b1 && (decide (a2 < b2) || (a2 == b2 && decide (a3 < b3))))) from rfl)
  cases h1 : (a1 != b1)
  · have e1 : a1 = b1 := by simpa using h1
    cases h2 : (a2 != b2)
    · have e2 : a2 = b2 := by simpa using h2
      have hr := Lib.hid (hr0.out.trans (by rw [e1, e2]; simp : _ = decide (a3 < b3)))
      clear e1 e2
      by_cases h3 : a3 < b3
      all_goals
        go_enter Try.func129, Try.ntmps129
        go_wp2_with fail
        go_ret
        exact ⟨ret_bool (by rw [hr.out]; simp [h3]), by rw [hW'.out]; exact hb'.out⟩
    · have e2 : ¬ a2 = b2 := by simpa using h2
      have hr := Lib.hid (hr0.out.trans (by rw [e1]; simp [e2] : _ = decide (a2 < b2)))
      clear e1 e2
      by_cases h3 : a2 < b2
      all_goals
        go_enter Try.func129, Try.ntmps129
        go_wp2_with fail
        go_ret
        exact ⟨ret_bool (by rw [hr.out]; simp [h3]), by rw [hW'.out]; exact hb'.out⟩
  · have e1 : ¬ a1 = b1 := by simpa using h1
    have hr := Lib.hid (hr0.out.trans (by simp [e1] : _ = decide (a1 < b1)))
    clear e1
    by_cases h3 : a1 < b1
    all_goals
      go_enter Try.func129, Try.ntmps129
      go_wp2_with fail
      go_ret
      exact ⟨ret_bool (by rw [hr.out]; simp [h3]), by rw [hW'.out]; exact hb'.out⟩

theorem l6Both_any (A : Option Addr) (n c : Nat) (ts : List Blk) (A' : Option Addr) (n' c' : Nat) (ss : List Int) (w : World) (h : BlksAt w w.heap.size A n ts) (h' : IntsAt w w.heap.size A' n' ss) (hn : n ≤ 1048576) (hn' : n' ≤ 1048576) :
    Calls Try.prog 130 #[.slice A n c, .slice A' n' c'] w (UpPost w (.bool (goodT ts && goodB ss))) := by
  have hh := Lib.hid h; have hh' := Lib.hid h'; clear h h'
  cases hg : goodT ts
  · go_enter Try.func130, Try.ntmps130
    go_wp2_with (go_at_call 147; refine (specGoodT_any _ _ _ ts _ hh.out hn).mono ?_; rintro e w1 ⟨rfl, b1⟩; rw [hg])
    go_ret
    exact ⟨rfl, b1⟩
  · cases hs : goodB ss
    all_goals
      go_enter Try.func130, Try.ntmps130
      go_wp2_with (first
        | (go_at_call 147; refine (specGoodT_any _ _ _ ts _ hh.out hn).mono ?_; rintro e w1 ⟨rfl, b1⟩; rw [hg]; have u1 := Lib.hid b1; clear b1)
        | (go_at_call 155; refine (specGood_any _ _ _ _ ss _ (hh'.out.up' u1.out) hn').mono ?_; rintro e w2 ⟨rfl, rfl⟩; rw [hs]))
      go_ret
      exact ⟨rfl, u1.out⟩
end Go.Proofs.Ytgdgajgfehjjdaa
