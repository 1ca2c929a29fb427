/- What is proved here: what the model's l6Vote, l6Less, l6Both and GoodPool return. No conditions but lengths. -/
import Derived.Test.YthiegfbdmmpabaaVotePool
import Derived.Deep.RegionHeld3
import Derived.Lib.QuietBelow
namespace Go.Proofs.Ythiegfbdmmpabaa
open Go.RowKit

theorem quiet_l1In_eq {w : World} {n : Nat} {x lo hi : Int} {b : Bool} (h : inB x lo hi = b) : Calls Try.prog 80 #[.int .i64 x, .int .i64 lo, .int .i64 hi] (w.drewN n) fun e w'' => e = .returned (.bool b) ∧ ∃ m, w'' = w.drewN m := by
  subst h; exact quiet_l1In x lo hi

set_option maxRecDepth 100000 in
set_option maxHeartbeats 1600000 in
theorem l6Vote_any (A : Option Addr) (n c : Nat) (ts : List Blk) (A' : Option Addr) (n' c' : Nat) (x y z : Int) (w : World) (h : BlksAt w w.heap.size A n ts) (_hn : n ≤ 1048576) (hn' : n' ≤ 1048576) :
    Calls Try.prog 146 #[.slice A n c, .slice A' n' c', .agg #[.int .i64 x, .int .i64 y, .int .i64 z]] w (UpPost w (.bool (voteOk ts n' (x, y, z)))) := by
  have hl := Lib.hid h.1
  have hh := Lib.hid h; clear h
  have r3 := three_cells w x y z 63
  have hb0 := bx_below w (.cells #[.int .i64 x, .int .i64 y, .int .i64 z] 63)
  obtain ⟨W, hW⟩ : ∃ W, w.alloc (.cells #[.int .i64 x, .int .i64 y, .int .i64 z] 63) = W := ⟨_, rfl⟩
  rw [hW] at r3 hb0
  have e0 := r3.cell (i := 0) (by omega)
  have e1 := r3.cell (i := 1) (by omega)
  have e2 := r3.cell (i := 2) (by omega)
  simp only [if_true, if_false, show (1 : Nat) ≠ 0 by decide, show (2 : Nat) ≠ 0 by decide, show (2 : Nat) ≠ 1 by decide] at e0 e1 e2
  have hb2 := Lib.hid hb0
  have hW' := Lib.hid hW
  obtain ⟨L, hL⟩ : ∃ L, (n' : Int) - 1 = L := ⟨_, rfl⟩
  have hw : IntKind.i64.wrap ((n' : Int) - 1) = L := by rw [← hL, IntKind.wrap_i64]; omega
  have hL' := Lib.hid hL
  clear r3 hL hn' hb0 hW
  cases g1 : inB x 0 L
  · have hr := Lib.hid (show voteOk ts n' (x, y, z) = false by unfold voteOk; rw [hL'.out]; simp only [g1]; rfl)
    go_enter Try.func146, Try.ntmps146
    go_wp2_with fail
    rw [hW'.out]
    go_quiet ((go_at_call 80; exact quiet_l1In_eq (by assumption)))
    go_wp2_with fail
    go_ret
    exact ⟨ret_bool hr.out.symm, below_drewN hb2.out _⟩
  · cases g2 : inB y 1 4000
    · have hr := Lib.hid (show voteOk ts n' (x, y, z) = false by unfold voteOk; simp only [g2]; simp)
      go_enter Try.func146, Try.ntmps146
      go_wp2_with fail
      rw [hW'.out]
      go_quiet ((go_at_call 80; exact quiet_l1In_eq (by assumption)))
      go_wp2_with fail
      go_ret
      exact ⟨ret_bool hr.out.symm, below_drewN hb2.out _⟩
    · by_cases g3 : 0 ≤ z
      · by_cases g4 : z < n
        · have d3 : decide (0 ≤ z) = true := decide_eq_true g3
          have d4 : decide (z < (n : Int)) = true := decide_eq_true g4
          obtain ⟨q, hq⟩ := Int.eq_ofNat_of_zero_le g3
          subst hq
          have hqn : q < n := by omega
          obtain ⟨tb, to, rfl, htb, _, ds⟩ := hh.out.2 q hqn
          obtain ⟨s, hsq⟩ : ∃ s, sloZ ts q = s := ⟨_, rfl⟩
          have dS := (hb2.out.cell (p := ⟨tb, to + q * 2 + 1, none⟩) htb).trans ds
          rw [show (ts[q]?.getD (0, 0)).2 = s from hsq] at dS
          have hin : inB (q : Int) 0 ((ts.length : Int) - 1) = true := inB_true (by omega) (by rw [hl.out]; omega)
          have hqI : (q : Int) < (n : Int) := by omega
          have hv := Lib.hid (show voteOk ts n' (x, y, (q : Int)) = decide (s ≤ y) by unfold voteOk; rw [hL'.out]; simp only [g1, g2, hin]; rw [Int.toNat_natCast, hsq]; rfl)
          clear ds hsq hin g4 g3
          by_cases g5 : s ≤ y
          · have d5 : decide (s ≤ y) = true := decide_eq_true g5
            have hr := Lib.hid (hv.out.trans (decide_eq_true g5))
            go_enter Try.func146, Try.ntmps146
            go_wp2_with fail
            rw [hW'.out]
            go_quiet ((go_at_call 80; exact quiet_l1In_eq (by assumption)))
            go_wp2_with fail
            go_ret
            exact ⟨ret_bool hr.out.symm, below_drewN hb2.out _⟩
          · have d5 : decide (s ≤ y) = false := decide_eq_false g5
            have hr := Lib.hid (hv.out.trans (decide_eq_false g5))
            go_enter Try.func146, Try.ntmps146
            go_wp2_with fail
            rw [hW'.out]
            go_quiet ((go_at_call 80; exact quiet_l1In_eq (by assumption)))
            go_wp2_with fail
            go_ret
            exact ⟨ret_bool hr.out.symm, below_drewN hb2.out _⟩
        · have d3 : decide (0 ≤ z) = true := decide_eq_true g3
          have d4 : decide (z < (n : Int)) = false := decide_eq_false g4
          have hr := Lib.hid (vote_no2 (ts := ts) (ns := n') (v := (x, y, z)) (.inr (by show (ts.length : Int) ≤ z; rw [hl.out]; omega)))
          go_enter Try.func146, Try.ntmps146
          go_wp2_with fail
          rw [hW'.out]
          go_quiet ((go_at_call 80; exact quiet_l1In_eq (by assumption)))
          go_wp2_with fail
          go_ret
          exact ⟨ret_bool hr.out.symm, below_drewN hb2.out _⟩
      · have d3 : decide (0 ≤ z) = false := decide_eq_false g3
        have hr := Lib.hid (vote_no2 (ts := ts) (ns := n') (v := (x, y, z)) (.inl (by show z < 0; omega)))
        go_enter Try.func146, Try.ntmps146
        go_wp2_with fail
        rw [hW'.out]
        go_quiet ((go_at_call 80; exact quiet_l1In_eq (by assumption)))
        go_wp2_with fail
        go_ret
        exact ⟨ret_bool hr.out.symm, below_drewN hb2.out _⟩

set_option maxRecDepth 100000 in
set_option maxHeartbeats 800000 in
theorem l6Less_any (a1 a2 a3 b1 b2 b3 : Int) (w : World) : Calls Try.prog 166 #[.agg #[.int .i64 a1, .int .i64 a2, .int .i64 a3], .agg #[.int .i64 b1, .int .i64 b2, .int .i64 b3]] w (UpPost w (.bool (lessV (a1, a2, a3) (b1, b2, b3)))) := by
  obtain ⟨W, hW, c1, c2, c3, d1, d2, d3, hb, hs⟩ := two_boxes w a1 a2 a3 b1 b2 b3 63
  have hb' := Lib.hid hb
  have hW' := Lib.hid hW
  clear hb hW
  have hr0 := Lib.hid (show lessV (a1, a2, a3) (b1, b2, b3) = (decide (a1 < b1) || (a1 == b1 && (decide (a2 < b2) || (a2 == b2 && decide (a3 < b3))))) from rfl)
  cases h1 : (a1 != b1)
  · have e1 : a1 = b1 := by simpa using h1
    cases h2 : (a2 != b2)
    · have e2 : a2 = b2 := by simpa using h2
      have hr := Lib.hid (hr0.out.trans (by rw [e1, e2]; simp : _ = decide (a3 < b3)))
      clear e1 e2
      by_cases h3 : a3 < b3
      all_goals
        go_enter Try.func166, Try.ntmps166
        go_wp2_with fail
        go_ret
        exact ⟨ret_bool (by rw [hr.out]; simp [h3]), by rw [hW'.out]; exact hb'.out⟩
    · have e2 : ¬ a2 = b2 := by simpa using h2
      have hr := Lib.hid (hr0.out.trans (by rw [e1]; simp [e2] : _ = decide (a2 < b2)))
      clear e1 e2
      by_cases h3 : a2 < b2
      all_goals
        go_enter Try.func166, Try.ntmps166
        go_wp2_with fail
        go_ret
        exact ⟨ret_bool (by rw [hr.out]; simp [h3]), by rw [hW'.out]; exact hb'.out⟩
  · have e1 : ¬ a1 = b1 := by simpa using h1
    have hr := Lib.hid (hr0.out.trans (by simp [e1] : _ = decide (a1 < b1)))
    clear e1
    by_cases h3 : a1 < b1
    all_goals
      go_enter Try.func166, Try.ntmps166
      go_wp2_with fail
      go_ret
      exact ⟨ret_bool (by rw [hr.out]; simp [h3]), by rw [hW'.out]; exact hb'.out⟩

theorem l6Both_any (A : Option Addr) (n c : Nat) (ts : List Blk) (A' : Option Addr) (n' c' : Nat) (ss : List Int) (w : World) (h : BlksAt w w.heap.size A n ts) (h' : IntsAt w w.heap.size A' n' ss) (hn : n ≤ 1048576) (hn' : n' ≤ 1048576) :
    Calls Try.prog 79 #[.slice A n c, .slice A' n' c'] w (UpPost w (.bool (goodT ts && goodB ss))) := by
  have hh := Lib.hid h; have hh' := Lib.hid h'; clear h h'
  cases hg : goodT ts
  · go_enter Try.func79, Try.ntmps79
    go_wp2_with (go_at_call 148; refine (specGoodT_any _ _ _ ts _ hh.out hn).mono ?_; rintro e w1 ⟨rfl, b1⟩; rw [hg])
    go_ret
    exact ⟨rfl, b1⟩
  · cases hs : goodB ss
    all_goals
      go_enter Try.func79, Try.ntmps79
      go_wp2_with (first
        | (go_at_call 148; refine (specGoodT_any _ _ _ ts _ hh.out hn).mono ?_; rintro e w1 ⟨rfl, b1⟩; rw [hg]; have u1 := Lib.hid b1; clear b1)
        | (go_at_call 149; refine (specGood_any _ _ _ _ ss _ (hh'.out.up' u1.out) hn').mono ?_; rintro e w2 ⟨rfl, rfl⟩; rw [hs]))
      go_ret
      exact ⟨rfl, u1.out⟩
end Go.Proofs.Ythiegfbdmmpabaa

/- What is proved here: what the model's GoodPool returns. No conditions but lengths. -/
namespace Go.Proofs.Ythiegfbdmmpabaa
open Go.RowKit

theorem pool_no {ts : List Blk} {ss : List Int} {vs : List Vt} {k : Nat} (hk : k < vs.length) (h : poolAt ts ss.length vs k = false) : poolOk ts ss vs = false := by
  unfold poolOk; rw [all_no hk h]; simp
theorem pool_yes {ts : List Blk} {ss : List Int} {vs : List Vt} (h : ∀ k, k < vs.length → poolAt ts ss.length vs k = true) : poolOk ts ss vs = ((goodT ts && goodB ss) && decide (vs.length ≤ 60)) := by
  unfold poolOk; rw [all_yes h]; simp

set_option maxRecDepth 100000 in
set_option maxHeartbeats 3200000 in
theorem specGoodPool_any (A : Option Addr) (n c : Nat) (ts : List Blk) (A' : Option Addr) (n' c' : Nat) (ss : List Int) (V : Option Addr) (m d : Nat) (vs : List Vt) (w : World) (h : BlksAt w w.heap.size A n ts) (h' : IntsAt w w.heap.size A' n' ss) (hv : VotesAt w w.heap.size V m vs) (hn : n ≤ 1048576) (hn' : n' ≤ 1048576) (hm : m ≤ 1048576) :
    Calls Try.prog 112 #[.slice A n c, .slice A' n' c', .agg #[.slice V m d]] w (UpPost w (.bool (poolOk ts ss vs))) := by
  have hl := Lib.hid h.1; have hl' := Lib.hid h'.1; have hlv := Lib.hid hv.1
  have hh := Lib.hid h; have hh' := Lib.hid h'; have hvv := Lib.hid hv; clear h h' hv
  have bx0 := Lib.hid (Bx.start w (.slice V m d) 55)
  have hc0 := bx0.out.cell
  go_enter Try.func112, Try.ntmps112
  go_wp2_with fail
  clear hc0
  go_loopw [7, 8, 12] (fun _ _ i wr => ∃ k : Nat, k ≤ m ∧ i = .int .i64 k ∧ Hid (∀ j, j < k → poolAt ts ss.length vs j = true) ∧ Hid (Bx w (.slice V m d) 55 wr)) (fun _ _ i _ => m - (intOf i).toNat)
  case atStart => exact ⟨0, Nat.zero_le _, rfl, Lib.hid (fun _ h => absurd h (Nat.not_lt_zero _)), bx0⟩
  case round =>
    obtain ⟨k, hk, rfl, hall, hbx⟩ := hrel
    by_cases hlt : k < m
    · obtain ⟨vb, vo, rfl, hvb, hcs⟩ := hvv.out.at (by omega)
      have c0 := (hbx.out.below.cell (p := ⟨vb, vo + k * 3, none⟩) hvb).trans (hcs k hlt).1
      have c1 := (hbx.out.below.cell (p := ⟨vb, vo + k * 3 + 1, none⟩) hvb).trans (hcs k hlt).2.1
      have c2 := (hbx.out.below.cell (p := ⟨vb, vo + k * 3 + 2, none⟩) hvb).trans (hcs k hlt).2.2
      have hcs' := Lib.hid hcs
      obtain ⟨v, hvk⟩ : ∃ v, getV vs k = v := ⟨_, rfl⟩
      rw [hvk] at c0 c1 c2
      have hvk' := Lib.hid hvk
      obtain ⟨x, y, z⟩ := v
      simp only at c0 c1 c2
      have hb1 := bx_below wr (.cells #[.int .i64 x, .int .i64 y, .int .i64 z] 63)
      have r3 := three_cells wr x y z 63
      obtain ⟨W, hW⟩ : ∃ W, wr.alloc (.cells #[.int .i64 x, .int .i64 y, .int .i64 z] 63) = W := ⟨_, rfl⟩
      rw [hW] at hb1 r3
      have hW' := Lib.hid hW
      have bx1 := Lib.hid (hbx.out.step hb1)
      have e0 := r3.cell (i := 0) (by omega)
      have e1 := r3.cell (i := 1) (by omega)
      have e2 := r3.cell (i := 2) (by omega)
      simp only [if_true, if_false, show (1 : Nat) ≠ 0 by decide, show (2 : Nat) ≠ 0 by decide, show (2 : Nat) ≠ 1 by decide] at e0 e1 e2
      have hps := Lib.hid (show poolAt ts ss.length vs k = (voteOk ts n' (x, y, z) && (decide (k = 0) || lessV (getV vs (k - 1)) (x, y, z))) by unfold poolAt; rw [hvk, hl'.out])
      have E0 := cell_regrown e0; have E1 := cell_regrown e1; have E2 := cell_regrown e2
      have EP := cell_regrown bx1.out.cell
      have cV := fun (d : Nat) (os : Array Obj) => Calls.regrown_of (l6Vote_any A n c ts A' n' c' x y z (Sort.grow (redrawn W d) os) (hh.out.up (bx1.out.below.trans ((below_regrown W d os).mono bx1.out.below.size))) hn hn')
      clear hW hb1 r3 hcs hvk e0 e1 e2
      cases g1 : voteOk ts n' (x, y, z)
      · rw [g1] at cV
        have cV' := Lib.hid cV
        have hr := Lib.hid (pool_no (ts := ts) (ss := ss) (vs := vs) (k := k) (by rw [hlv.out]; exact hlt) (by rw [hps.out, g1]; rfl))
        clear g1 cV EP
        go_wp2_with fail
        rw [hW'.out]
        refine wp_region_quiet_below (by kernel_rfl) (by kernel_rfl) ?_
        repeat (go_big_quiet_step (exact cV'.out _ _))
        refine wpQuiet_nil ?_
        intro _ hw'
        obtain ⟨⟨dq, osq⟩, hw''⟩ := hw'
        subst hw''
        have bx3 := Lib.hid (bx1.out.step (below_regrown W dq osq))
        clear E0 E1 E2
        go_wp2_with fail
        go_ret
        exact ⟨ret_bool hr.out.symm, bx3.out.below⟩
      · rw [g1] at cV
        have cV' := Lib.hid cV
        clear cV
        by_cases hk0 : k = 0
        · have hnext := Lib.hid (show ∀ j, j < k + 1 → poolAt ts ss.length vs j = true from fun j hj => by
            by_cases e : j = k
            · rw [e, hps.out, g1, decide_eq_true hk0]; rfl
            · exact hall.out j (by omega))
          have hd0 : decide (0 < k) = false := decide_eq_false (by omega)
          clear g1 hk0 EP
          go_wp2_with fail
          rw [hW'.out]
          refine wp_region_quiet_below (by kernel_rfl) (by kernel_rfl) ?_
          repeat (go_big_quiet_step (exact cV'.out _ _))
          refine wpQuiet_nil ?_
          intro _ hw'
          obtain ⟨⟨dq, osq⟩, hw''⟩ := hw'
          subst hw''
          have bx3 := Lib.hid (bx1.out.step (below_regrown W dq osq))
          clear E0 E1 E2
          go_wp2_with fail
          go_roundw
          case rel => exact ⟨k + 1, by omega, by go_num, hnext, bx3⟩
          case measure => simp [intOf]; omega
        · obtain ⟨K, hK⟩ : ∃ K, k - 1 = K := ⟨_, rfl⟩
          have hKm : K < m := by omega
          have p0 := cell_regrown ((bx1.out.below.cell (p := ⟨vb, vo + K * 3, none⟩) hvb).trans (hcs'.out K hKm).1)
          have p1 := cell_regrown ((bx1.out.below.cell (p := ⟨vb, vo + K * 3 + 1, none⟩) hvb).trans (hcs'.out K hKm).2.1)
          have p2 := cell_regrown ((bx1.out.below.cell (p := ⟨vb, vo + K * 3 + 2, none⟩) hvb).trans (hcs'.out K hKm).2.2)
          obtain ⟨u, hu⟩ : ∃ u, getV vs K = u := ⟨_, rfl⟩
          rw [hu] at p0 p1 p2
          rw [hK, hu, decide_eq_false hk0] at hps
          obtain ⟨u1, u2, u3⟩ := u
          simp only at p0 p1 p2
          have hKI : (k : Int) - 1 = (K : Int) := by omega
          have hKw : IntKind.i64.wrap ((k : Int) - 1) = (K : Int) := by rw [hKI]; exact wrap_natV (by omega)
          have hk0I : decide (0 < k) = true := decide_eq_true (by omega)
          have hKmI : (K : Int) < (m : Int) := by omega
          have cL := fun (d : Nat) (os : Array Obj) => Calls.regrown_of (w := W) (l6Less_any u1 u2 u3 x y z (Sort.grow (redrawn W d) os))
          clear hu hKI hk0
          cases g2 : lessV (u1, u2, u3) (x, y, z)
          · rw [g2] at cL
            have cL' := Lib.hid cL
            have hr := Lib.hid (pool_no (ts := ts) (ss := ss) (vs := vs) (k := k) (by rw [hlv.out]; exact hlt) (hps.out.trans (by rw [g1, g2]; rfl)))
            clear g1 g2 cL
            go_wp2_with fail
            rw [hW'.out]
            refine wp_region_quiet_below (by kernel_rfl) (by kernel_rfl) ?_
            repeat (go_big_quiet_step (first | (go_at_call 146; exact cV'.out _ _) | (go_at_call 166; exact cL'.out _ _)))
            refine wpQuiet_nil ?_
            intro _ hw'
            obtain ⟨⟨dq, osq⟩, hw''⟩ := hw'
            subst hw''
            have bx3 := Lib.hid (bx1.out.step (below_regrown W dq osq))
            clear E0 E1 E2 EP p0 p1 p2
            go_wp2_with fail
            go_ret
            exact ⟨ret_bool hr.out.symm, bx3.out.below⟩
          · rw [g2] at cL
            have cL' := Lib.hid cL
            have hnext := Lib.hid (show ∀ j, j < k + 1 → poolAt ts ss.length vs j = true from fun j hj => by
              by_cases e : j = k
              · rw [e, hps.out, g1, g2]; rfl
              · exact hall.out j (by omega))
            clear g1 g2 cL
            go_wp2_with fail
            rw [hW'.out]
            refine wp_region_quiet_below (by kernel_rfl) (by kernel_rfl) ?_
            repeat (go_big_quiet_step (first | (go_at_call 146; exact cV'.out _ _) | (go_at_call 166; exact cL'.out _ _)))
            refine wpQuiet_nil ?_
            intro _ hw'
            obtain ⟨⟨dq, osq⟩, hw''⟩ := hw'
            subst hw''
            have bx3 := Lib.hid (bx1.out.step (below_regrown W dq osq))
            clear E0 E1 E2 EP p0 p1 p2
            go_wp2_with fail
            go_roundw
            case rel => exact ⟨k + 1, by omega, by go_num, hnext, bx3⟩
            case measure => simp [intOf]; omega
    · have hkm : k = m := by omega
      have hr := Lib.hid (pool_yes (ts := ts) (ss := ss) (vs := vs) (fun j hj => hall.out j (by rw [hlv.out] at hj; omega)))
      have hcx := hbx.out.cell
      clear hkm
      cases g1 : (goodT ts && goodB ss)
      · have hr2 := Lib.hid (hr.out.trans (by rw [g1, Bool.false_and] : _ = false))
        go_wp2_with (go_at_call 79; refine (l6Both_any A n c ts A' n' c' ss _ (hh.out.up hbx.out.below) (hh'.out.up' hbx.out.below) hn hn').mono ?_; rintro e w2 ⟨rfl, b2⟩; rw [g1]; have bx2 := Lib.hid (hbx.out.step b2); have hcy := bx2.out.cell; clear b2)
        go_ret
        exact ⟨ret_bool hr2.out.symm, bx2.out.below⟩
      · by_cases h60 : m ≤ 60
        · have hr2 := Lib.hid (hr.out.trans (by rw [g1, hlv.out]; simp [h60] : _ = true))
          have h60I : (m : Int) ≤ 60 := by omega
          go_wp2_with (go_at_call 79; refine (l6Both_any A n c ts A' n' c' ss _ (hh.out.up hbx.out.below) (hh'.out.up' hbx.out.below) hn hn').mono ?_; rintro e w2 ⟨rfl, b2⟩; rw [g1]; have bx2 := Lib.hid (hbx.out.step b2); have hcy := bx2.out.cell; clear b2)
          go_ret
          exact ⟨ret_bool hr2.out.symm, bx2.out.below⟩
        · have hr2 := Lib.hid (hr.out.trans (by rw [g1, hlv.out]; simp [h60] : _ = false))
          have h60I : decide ((m : Int) ≤ 60) = false := decide_eq_false (by omega)
          have h60J : decide (m ≤ 60) = false := decide_eq_false h60
          go_wp2_with (go_at_call 79; refine (l6Both_any A n c ts A' n' c' ss _ (hh.out.up hbx.out.below) (hh'.out.up' hbx.out.below) hn hn').mono ?_; rintro e w2 ⟨rfl, b2⟩; rw [g1]; have bx2 := Lib.hid (hbx.out.step b2); have hcy := bx2.out.cell; clear b2)
          go_ret
          exact ⟨ret_bool hr2.out.symm, bx2.out.below⟩
end Go.Proofs.Ythiegfbdmmpabaa
