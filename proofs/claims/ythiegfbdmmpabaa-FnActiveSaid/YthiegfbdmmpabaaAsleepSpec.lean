/- What is proved here: what the program's and the model's AsleepIn return. No conditions but lengths. -/
import Derived.Test.YthiegfbdmmpabaaTrimSpec
import Derived.Test.YthiegfbdmmpabaaAsleepFacts
import Derived.Test.YthiegfbdmmpabaaLiarsImpl
import Derived.Laws.LoneSync
import Derived.StillTailTactics
import Derived.Deep.Cut
import Derived.Deep.CutRange
namespace Go.Proofs.Ythiegfbdmmpabaa
open Go.RowKit

/-- Adding 1 to a counter. -/
theorem add64_any (g i : Nat) (x : Int) (w : World) (hc : w.cell? ⟨g, i, none⟩ = some (.int .i64 x)) (hz : w.frozen? ⟨g, i, none⟩ = false) (h0 : 0 ≤ x) (h1 : x ≤ 1000) :
    Calls Try.prog 167 #[.pointer (some ⟨g, i, none⟩), .int .i64 1] w fun e w' => e = .returned (.int .i64 (x + 1)) ∧ w' = w.setCell ⟨g, i, none⟩ (.int .i64 (x + 1)) := by
  have hadd := run_call_add (P := Try.prog) Try.func180 (by kernel_rfl) (by kernel_rfl) (by kernel_rfl) .i64 (by kernel_rfl) (y := 1) (s := x + 1) hc hz (by simp [go_sem, IntKind.wrap_i64]; omega)
  clear hc hz
  go_enter Try.func167, Try.ntmps167
  go_wp2_with fail
  go_ret
  exact ⟨rfl, rfl⟩
theorem load64_any (g i : Nat) (x : Int) (w : World) (hc : w.cell? ⟨g, i, none⟩ = some (.int .i64 x)) :
    Calls Try.prog 168 #[.pointer (some ⟨g, i, none⟩)] w fun e w' => e = .returned (.int .i64 x) ∧ w = w' := by
  have hl := run_call_load (P := Try.prog) Try.func181 (by kernel_rfl) (by kernel_rfl) (by kernel_rfl) .i64 (by kernel_rfl) hc
  clear hc
  go_enter Try.func168, Try.ntmps168
  go_wp2_with fail
  go_ret
  exact ⟨rfl, rfl⟩
theorem includes_any (g i : Nat) (x : Nat) (w : World) (hc : w.cell? ⟨g, i, none⟩ = some (.int .i64 (x : Int))) (hi : i < 10) :
    Calls Try.prog 116 #[.pointer (some ⟨g, 0, none⟩), .int .i64 i] w fun e w' => e = .returned (.bool (decide (0 < x))) ∧ w = w' := by
  have hl := Lib.hid (load64_any g i (x : Int) w hc)
  have hi' : (i : Int) < 10 := by omega
  have hd := Lib.hid (show decide ((0 : Int) < (x : Int)) = decide (0 < x) by simp)
  go_enter Try.func116, Try.ntmps116
  go_wp2_with fail
  first | rw [Nat.zero_add] | skip
  refine hl.out.mono ?_
  rintro e w' ⟨rfl, rfl⟩
  go_wp2_with fail
  go_ret
  exact ⟨ret_bool (by simp), rfl⟩

theorem turn_zero (w : World) : (w.alloc (.cells #[.int .i64 0, .int .i64 0, .int .i64 0, .int .i64 0, .int .i64 0, .int .i64 0, .int .i64 0, .int .i64 0, .int .i64 0, .int .i64 0] 180)).rowIs w.heap.size 180 10 (fun _ => .int .i64 0) :=
  ⟨_, heap_alloc_new _ _, rfl, fun i hi => by
    have h : i = 0 ∨ i = 1 ∨ i = 2 ∨ i = 3 ∨ i = 4 ∨ i = 5 ∨ i = 6 ∨ i = 7 ∨ i = 8 ∨ i = 9 := by omega
    rcases h with h | h | h | h | h | h | h | h | h | h <;> subst h <;> rfl⟩
def RetTurn (w : World) (vs : List Vt) (m : Nat) (e : Ending) (w' : World) : Prop :=
  ∃ g, e = .returned (.pointer (some ⟨g, 0, none⟩)) ∧ w'.rowIs g 180 10 (fun i => .int .i64 (cntK vs i m : Nat)) ∧ w.heap.size ≤ g ∧ Below w.heap.size w w'

set_option maxRecDepth 100000 in
set_option maxHeartbeats 1600000 in
theorem turnoutOf_any (V : Option Addr) (m d : Nat) (vs : List Vt) (w : World) (hv : VotesAt w w.heap.size V m vs) (hm : m ≤ 60) (hw : ∀ k, k < vs.length → ∃ i : Nat, (getV vs k).1 = i ∧ i < 10) :
    Calls Try.prog 115 #[.agg #[.slice V m d]] w (RetTurn w vs m) := by
  have hlv := Lib.hid hv.1
  have hvv := Lib.hid hv
  have hw' := Lib.hid hw
  have r1 := bx_row w (.slice V m d) 55
  have hc1 := (rowIs_below r1 (bx_below (w.alloc (.cells #[.slice V m d] 55)) (.cells #[.int .i64 0, .int .i64 0, .int .i64 0, .int .i64 0, .int .i64 0, .int .i64 0, .int .i64 0, .int .i64 0, .int .i64 0, .int .i64 0] 180)) r1.lt).cell (i := 0) (by omega)
  have r2 := turn_zero (w.alloc (.cells #[.slice V m d] 55))
  rw [show (w.alloc (.cells #[.slice V m d] 55)).heap.size = w.heap.size + 1 by simp] at r2
  have q2 := Lib.hid r2
  have bb := Lib.hid ((bx_below w (.cells #[.slice V m d] 55)).trans ((bx_below (w.alloc (.cells #[.slice V m d] 55)) (.cells #[.int .i64 0, .int .i64 0, .int .i64 0, .int .i64 0, .int .i64 0, .int .i64 0, .int .i64 0, .int .i64 0, .int .i64 0, .int .i64 0] 180)).mono (by simp)))
  clear r1 r2 hv hw
  go_enter Try.func115, Try.ntmps115
  go_wp2_with fail
  clear hc1
  go_loopw [5, 11] (fun _ i wr => ∃ k : Nat, k ≤ m ∧ i = .int .i64 k ∧ Hid (wr.rowIs (w.heap.size + 1) 180 10 (fun i => .int .i64 (cntK vs i k : Nat))) ∧ Hid (Below w.heap.size w wr)) (fun _ i _ => m - (intOf i).toNat)
  case atStart => exact ⟨0, Nat.zero_le _, rfl, q2, bb⟩
  case round =>
    obtain ⟨k, hk, rfl, hrow, hbel⟩ := hrel
    have hlt2 := hrow.out.lt
    by_cases hlt : k < m
    · obtain ⟨vb, vo, rfl, hvb, e0', e1', e2'⟩ := hvv.out.2 k hlt
      obtain ⟨x, hx, hx10⟩ := hw'.out k (by rw [hlv.out]; exact hlt)
      have e0 := (hbel.out.cell (p := ⟨vb, vo + k * 3, none⟩) hvb).trans e0'
      have e1 := (hbel.out.cell (p := ⟨vb, vo + k * 3 + 1, none⟩) hvb).trans e1'
      have e2 := (hbel.out.cell (p := ⟨vb, vo + k * 3 + 2, none⟩) hvb).trans e2'
      rw [hx] at e0
      obtain ⟨y, hy⟩ : ∃ y, (getV vs k).2.1 = y := ⟨_, rfl⟩
      obtain ⟨z, hz⟩ : ∃ z, (getV vs k).2.2 = z := ⟨_, rfl⟩
      rw [hy] at e1
      rw [hz] at e2
      have hb1 := bx_below wr (.cells #[.int .i64 (x : Int), .int .i64 y, .int .i64 z] 63)
      have r3 := three_cells wr (x : Int) y z 63
      obtain ⟨W, hW⟩ : ∃ W, wr.alloc (.cells #[.int .i64 (x : Int), .int .i64 y, .int .i64 z] 63) = W := ⟨_, rfl⟩
      rw [hW] at hb1 r3
      have f0 := r3.cell (i := 0) (by omega)
      simp only [if_true] at f0
      have hW' := Lib.hid hW
      have u1 := Lib.hid (hbel.out.trans (hb1.mono hbel.out.size))
      have row1 := Lib.hid (rowIs_below hrow.out hb1 hlt2)
      have d1 := row1.out.cell (i := x) hx10
      have dz := row1.out.frozen x
      have hcl := cntK_le vs x k
      obtain ⟨C, hC⟩ : ∃ C, cntK vs x k = C := ⟨_, rfl⟩
      rw [hC] at d1 hcl
      have hxI : (x : Int) < 10 := by omega
      have row9 := Lib.hid (show (W.drew.setCell ⟨w.heap.size + 1, x, none⟩ (.int .i64 ((C : Int) + 1))).rowIs (w.heap.size + 1) 180 10 (fun i => .int .i64 (cntK vs i (k + 1) : Nat)) from
        ((show W.drew.rowIs (w.heap.size + 1) 180 10 _ from row1.out).set x _).congr (fun i hi => by
          by_cases e : i = x
          · subst e; rw [if_pos rfl]; simp only [cntK]; rw [if_pos hx, hC]; congr 1
          · rw [if_neg e]; simp only [cntK]; rw [if_neg (by rw [hx]; omega)]))
      have u9 := Lib.hid (show Below w.heap.size w (W.drew.setCell ⟨w.heap.size + 1, x, none⟩ (.int .i64 ((C : Int) + 1))) from
        (show Below w.heap.size w W.drew from ⟨u1.out.os, u1.out.tape, u1.out.output, u1.out.size, u1.out.block⟩).setCell (by show w.heap.size ≤ w.heap.size + 1; omega) _)
      have ha := Lib.hid (add64_any (w.heap.size + 1) x (C : Int) W.drew (show W.drew.cell? _ = _ from d1) (show W.drew.frozen? _ = _ from dz) (by omega) (by omega))
      clear hW hb1 r3 e0' e1' e2' hx hy hz hC d1 dz
      go_wp2_with fail
      rw [hW'.out]
      go_still_tail 6, (by kernel_rfl)
      change wpList _ _ _ _ _ W.drew
      go_wp2_with fail
      first | rw [Nat.zero_add] | skip
      refine ha.out.mono ?_
      rintro e w3 ⟨rfl, rfl⟩
      go_wp2_with fail
      go_roundw
      case rel => exact ⟨k + 1, by omega, by go_num, row9, u9⟩
      case measure => simp [intOf]; omega
    · have hkn : k = m := by omega
      subst hkn
      go_wp2_with fail
      go_ret
      exact ⟨_, rfl, hrow.out, by omega, hbel.out⟩

set_option maxRecDepth 100000 in
set_option maxHeartbeats 3200000 in
theorem implAsleep_any (A : Option Addr) (n c : Nat) (ts : List Blk) (A' : Option Addr) (n' c' : Nat) (ss : List Int) (V : Option Addr) (m d : Nat) (vs : List Vt) (now keep : Int) (w : World) (h : BlksAt w w.heap.size A n ts) (h' : IntsAt w w.heap.size A' n' ss) (hv : VotesAt w w.heap.size V m vs) (hn : n ≤ 1048576) (hn' : n' ≤ 1048576) (hm : m ≤ 1048576) :
    Calls Try.prog 45 #[.slice A n c, .slice A' n' c', .agg #[.slice V m d], .int .i64 now, .int .i64 keep] w (RetOwn w (trimOK ts ss vs now keep) (asleepR ts ss vs now keep)) := by
  have hl' := Lib.hid h'.1; have hlv := Lib.hid hv.1
  have hh := Lib.hid h; have hh' := Lib.hid h'; have hvv := Lib.hid hv; clear h h' hv
  have bx0 := Lib.hid (Bx.start w (.slice V m d) 55)
  have hc0 := bx0.out.cell
  cases hg : trimOK ts ss vs now keep
  · have hr := Lib.hid (show asleepR ts ss vs now keep = [] by unfold asleepR; rw [if_neg (by rw [hg]; decide)])
    go_enter Try.func45, Try.ntmps45
    go_wp2_with (go_at_call 43; refine (implActive_any A n c ts A' n' c' ss V m d vs now keep _ (hh.out.up bx0.out.below) (hh'.out.up' bx0.out.below) (hvv.out.up bx0.out.below) hn hn' hm).mono ?_; rw [hg]; rintro e w1 ⟨A1, n1, c1, rfl, o1, b1⟩; have bx1 := Lib.hid (bx0.out.step (b1.trans ((bx_below w1 (.cells #[.slice A1 n1 c1] 55)).mono b1.size))); clear o1 b1 hc0)
    go_ret2
    exact ⟨none, 0, 0, rfl, by rw [hr.out]; exact own_nil _ _, bx1.out.below⟩
  · have hp := Lib.hid (trimOK_iff.1 hg).1
    obtain ⟨P, hP⟩ : ∃ P, actR ts ss vs now keep = P := ⟨_, rfl⟩
    have hP' := Lib.hid hP
    have hr := Lib.hid (show asleepR ts ss vs now keep = slpK vs P n' by unfold asleepR; rw [if_pos hg, hP, hl'.out])
    have hpa := Lib.hid (show poolOk ts ss P = true by rw [← hP]; unfold actR; rw [if_pos hg]; exact poolOk_filter (trimOK_iff.1 hg).1 _)
    have hwh := Lib.hid (fun (l : List Vt) (hl : poolOk ts ss l = true) k (hk : k < l.length) => (show ∃ i : Nat, (getV l k).1 = i ∧ i < 10 by
      obtain ⟨⟨i, a, b⟩, _⟩ := voteOk_iff.1 ((poolOk_iff.1 hl).2.1 k hk)
      have := (goodB_len (poolOk_iff.1 hl).1.1.2).2
      exact ⟨i, a, by omega⟩))
    have hn10 : n' ≤ 10 := by rw [← hl'.out]; exact (goodB_len (poolOk_iff.1 hp.out).1.1.2).2
    have hm60 : m ≤ 60 := by rw [← hlv.out]; exact (poolOk_iff.1 hp.out).1.2
    have hP60 := Lib.hid (poolOk_iff.1 hpa.out).1.2
    obtain ⟨i0, hi, hz0, hz1, hz2⟩ := put_parts put_info3
    clear hP
    go_enter Try.func45, Try.ntmps45
    go_upto_region 4 with (go_at_call 43; refine (implActive_any A n c ts A' n' c' ss V m d vs now keep _ (hh.out.up bx0.out.below) (hh'.out.up' bx0.out.below) (hvv.out.up bx0.out.below) hn hn' hm).mono ?_; rw [hg, hP'.out]; rintro e w1 ⟨A1, n1, c1, rfl, o1, b1⟩; have kk := bx_below w1 (.cells #[.slice A1 n1 c1] 55); have x1 := Lib.hid (bx_row w1 (.slice A1 n1 c1) 55); have hx1 := x1.out.cell (i := 0) (by omega); have o2 := Lib.hid (o1.below kk); have bx1 := Lib.hid (bx0.out.step (b1.trans (kk.mono b1.size))); clear o1 b1 kk hc0; have hc1 := bx1.out.cell)
    have hn1 := Lib.hid o2.out.len
    have hn60 : n1 ≤ 60 := by rw [← hn1.out]; exact hP60.out
    have k1 := Lib.hid (turnoutOf_any V m d vs (w1.alloc (.cells #[.slice A1 n1 c1] 55)).drew (show VotesAt (w1.alloc (.cells #[.slice A1 n1 c1] 55)).drew (w1.alloc (.cells #[.slice A1 n1 c1] 55)).drew.heap.size V m vs from ⟨(hvv.out.up bx1.out.below).1, (hvv.out.up bx1.out.below).2⟩) hm60 (hwh.out vs hp.out))
    go_cut [14, 15] from 29 to 32 (fun s t wx => ∃ g1 g2, s = .pointer (some ⟨g1, 0, none⟩) ∧ t = .pointer (some ⟨g2, 0, none⟩) ∧ Hid (wx.rowIs g1 180 10 (fun i => .int .i64 (cntK vs i vs.length : Nat))) ∧ Hid (wx.rowIs g2 180 10 (fun i => .int .i64 (cntK P i P.length : Nat))) ∧ Hid (Below w.heap.size w wx))
    case first =>
      have tk0 : True := trivial
      go_region_with (first
        | (clear tk0
           go_at_call 115
           refine k1.out.mono ?_
           rintro e w3 ⟨g1, rfl, t1, lo1, b3⟩
           have b4 : Below (w1.alloc (.cells #[.slice A1 n1 c1] 55)).heap.size (w1.alloc (.cells #[.slice A1 n1 c1] 55)) w3 := ⟨b3.os, b3.tape, b3.output, b3.size, b3.block⟩
           have hx3 := (rowIs_below x1.out b4 x1.out.lt).cell (i := 0) (by omega)
           have o3 := Lib.hid (o2.out.below b4)
           have u3 := Lib.hid (bx1.out.step b4).below
           have y1 := Lib.hid t1
           clear t1 lo1 b3 b4
           have tk1 : True := trivial)
        | (clear tk1
           go_at_call 115
           refine (turnoutOf_any A1 n1 c1 P _ o3.out.votes hn60 (hwh.out P hpa.out)).mono ?_
           rintro e w5 ⟨g2, rfl, t2, lo2, b5⟩
           have y2 := Lib.hid t2
           have y1' := Lib.hid (rowIs_below y1.out b5 y1.out.lt)
           have u5 := Lib.hid (u3.out.trans (b5.mono u3.out.size))
           clear t2 lo2 b5))
      all_goals
        go_wp2_with fail
        go_meet
        case rel => exact ⟨_, _, rfl, rfl, by rw [hlv.out]; exact y1', by rw [hn1.out]; exact y2, u5⟩
    case rest =>
      obtain ⟨g1, g2, rfl, rfl, y1, y2, u5⟩ := hcut
      clear k1 hx1 hc1
      go_wp2_with fail
      go_loopw [16, 17, 35] (fun o _ i wr => ∃ k : Nat, k ≤ n' ∧ i = .int .i64 k ∧ Hid (wr.ownsRow wc.heap.size 3 1 o (slpK vs P k).length ((slpK vs P k).map (Value.int .i64))) ∧ Hid (Below wc.heap.size wc wr)) (fun _ _ i _ => n' - (intOf i).toNat)
      case atStart => exact ⟨0, Nat.zero_le _, rfl, Lib.hid (World.ownsRow_nil _ _ _ _), Lib.hid (Below.refl _ _)⟩
      case round =>
        obtain ⟨k, hk, rfl, ho, hbel⟩ := hrel
        have hsl := slpK_len vs P k
        have hws := hbel.out.size
        by_cases hlt : k < n'
        · have c1 := (rowIs_below y1.out hbel.out y1.out.lt).cell (i := k) (by omega)
          have c2 := (rowIs_below y2.out hbel.out y2.out.lt).cell (i := k) (by omega)
          have q1 := Lib.hid (includes_any g1 k _ wr c1 (by omega))
          have q2 := Lib.hid (includes_any g2 k _ wr c2 (by omega))
          have hst := Lib.hid (show slpP vs P k = (decide (0 < cntK vs k vs.length) && !decide (0 < cntK P k P.length)) from rfl)
          clear c1 c2
          cases d1 : decide (0 < cntK vs k vs.length)
          · have hnx := Lib.hid (show slpK vs P (k + 1) = slpK vs P k by rw [slpK_step, hst.out, d1]; rfl)
            rw [d1] at q1
            go_wp2_with (go_at_call 116; refine q1.out.mono ?_; rintro e w7 ⟨rfl, rfl⟩)
            go_roundw
            case rel => exact ⟨k + 1, by omega, by go_num, Lib.hid (by rw [hnx.out]; exact ho.out), hbel⟩
            case measure => simp [intOf]; omega
          · rw [d1] at q1
            cases d2 : decide (0 < cntK P k P.length)
            · have hnx := Lib.hid (show slpK vs P (k + 1) = slpK vs P k ++ [(k : Int)] by rw [slpK_step, hst.out, d1, d2]; rfl)
              rw [d2] at q2
              have tk0 : True := trivial
              go_wp2_with (first
                | (clear tk0; go_at_call 116; refine q1.out.mono ?_; rintro e w7 ⟨rfl, rfl⟩; have tk1 : True := trivial)
                | (clear tk1; go_at_call 116; refine q2.out.mono ?_; rintro e w7 ⟨rfl, rfl⟩)
                | (at_builtin; refine appendV _ rfl _ _ 23 rfl wc.heap.size i0 Try.underlying23 hi hz0 hz1 hz2 _ (slpK vs P k) rfl (ho.out.alloc _) wr.heap.size 0 1 (k : Int) rfl ((bx_row wr (.int .i64 (k : Int)) 3).cell (i := 0) (by omega)) (by omega) (by simp; omega) ?_; intro g c9 w9 r1 r2 r9; have z1 := Lib.hid r1; have z2 := Lib.hid r2; clear r1 r2 r9))
              have u9 := Lib.hid (show Below wc.heap.size wc w9 from (hbel.out.alloc hws (.cells #[.int .i64 (k : Int)] 3)).grown z2.out (by simp; omega) (fun j e => ((ho.out.alloc (.cells #[.int .i64 (k : Int)] 3)).lt j e).1))
              go_roundw
              case rel => exact ⟨k + 1, by omega, by go_num, Lib.hid (by rw [hnx.out]; simpa using z1.out), u9⟩
              case measure => simp [intOf]; omega
            · have hnx := Lib.hid (show slpK vs P (k + 1) = slpK vs P k by rw [slpK_step, hst.out, d1, d2]; rfl)
              rw [d2] at q2
              have tk0 : True := trivial
              go_wp2_with (first
                | (clear tk0; go_at_call 116; refine q1.out.mono ?_; rintro e w7 ⟨rfl, rfl⟩; have tk1 : True := trivial)
                | (clear tk1; go_at_call 116; refine q2.out.mono ?_; rintro e w7 ⟨rfl, rfl⟩))
              go_roundw
              case rel => exact ⟨k + 1, by omega, by go_num, Lib.hid (by rw [hnx.out]; exact ho.out), hbel⟩
              case measure => simp [intOf]; omega
        · have hkn : k = n' := by omega
          subst hkn
          have u9 := Lib.hid (u5.out.trans (hbel.out.mono u5.out.size))
          have hsz := u5.out.size
          go_wp2_with fail
          go_ret2
          obtain ⟨A6, c6, e6, o6⟩ := OwnAt.of_owns ho.out
          exact ⟨A6, _, c6, by rw [e6]; rfl, by rw [hr.out]; exact o6.fewer hsz, u9.out⟩
end Go.Proofs.Ythiegfbdmmpabaa
