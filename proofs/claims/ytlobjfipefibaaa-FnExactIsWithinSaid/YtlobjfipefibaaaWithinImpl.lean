/- What is proved here: what the program's IsWithin returns. No conditions but lengths. -/
import Derived.Test.YtlobjfipefibaaaAreViews
namespace Go.Proofs.Ytlobjfipefibaaa
open Go.RowKit Go.Maps Go.Sort Go.Shelf Go.Lib

set_option maxRecDepth 100000 in
set_option maxHeartbeats 800000 in
theorem implIsWithin_any (A : Option Addr) (n c : Nat) (ts : List Blk) (A' : Option Addr) (n' c' : Nat) (ss : List Int) (V : Option Addr) (m d : Nat) (vs : List Vt) (U : Option Addr) (k e0 : Nat) (us : List Vt) (w : World) (h : BlksAt w w.heap.size A n ts) (h' : IntsAt w w.heap.size A' n' ss) (hv : VotesAt w w.heap.size V m vs) (hu : VotesAt w w.heap.size U k us) (hn : n ≤ 1048576) (hn' : n' ≤ 1048576) (hm : m ≤ 1048576) (hk : k ≤ 1048576) (_hc : m ≤ d) (_hnil : V = none → m = 0 ∧ d = 0) (_hd : k ≤ e0) (_hnil' : U = none → k = 0 ∧ e0 = 0) :
    Calls Try.prog 53 #[.slice A n c, .slice A' n' c', .agg #[.slice V m d], .agg #[.slice U k e0]] w (UpPost w (.tuple #[.bool (wiR ts ss vs us), .bool (wiOK ts ss vs us)])) := by
  have hh := Lib.hid h; have hh' := Lib.hid h'; have hvv := Lib.hid hv; have huu := Lib.hid hu
  have hlv := Lib.hid hv.1; have hlu := Lib.hid hu.1; have hl := Lib.hid h.1; have hl' := Lib.hid h'.1
  clear h h' hv hu
  obtain ⟨r1, r2, bW, sW⟩ := bx2_rows w (.slice V m d) (.slice U k e0) 29 29
  have q1 := Lib.hid r1; have q2 := Lib.hid r2; have u := Lib.hid bW
  have hc1 := q1.out.cell (i := 0) (by omega); have hc2 := q2.out.cell (i := 0) (by omega)
  clear r1 r2 bW sW
  cases hg : poolOk ts ss vs
  · have hok := Lib.hid (show wiOK ts ss vs us = false by unfold wiOK; rw [hg]; rfl)
    have hr := Lib.hid (show wiR ts ss vs us = false by unfold wiR; rw [hok.out]; rfl)
    go_enter Try.func53, Try.ntmps53
    go_wp2_with (go_at_call 81; refine (goodPool_any A n c ts A' n' c' ss V m d vs _ (hh.out.up u.out) (hh'.out.up' u.out) (hvv.out.up u.out) hn hn' hm).mono ?_; rintro e w1 ⟨rfl, b1⟩; rw [hg]; replace u := Lib.hid (u.out.trans (b1.mono u.out.size)); clear b1)
    go_ret2
    exact ⟨by rw [hok.out, hr.out]; rfl, u.out⟩
  · cases hg2 : poolOk ts ss us
    · have hok := Lib.hid (show wiOK ts ss vs us = false by unfold wiOK; rw [hg2]; simp)
      have hr := Lib.hid (show wiR ts ss vs us = false by unfold wiR; rw [hok.out]; rfl)
      go_enter Try.func53, Try.ntmps53
      have tk0 : True := trivial
      go_wp2_with (first
        | (clear tk0; go_at_call 81; refine (goodPool_any A n c ts A' n' c' ss V m d vs _ (hh.out.up u.out) (hh'.out.up' u.out) (hvv.out.up u.out) hn hn' hm).mono ?_; rintro e w1 ⟨rfl, b1⟩; rw [hg]; replace u := Lib.hid (u.out.trans (b1.mono u.out.size)); replace q1 := Lib.hid (rowIs_below q1.out b1 q1.out.lt); replace q2 := Lib.hid (rowIs_below q2.out b1 q2.out.lt); clear b1 hc1 hc2; have hc1 := q1.out.cell (i := 0) (by omega); have hc2 := q2.out.cell (i := 0) (by omega); have tk1 : True := trivial)
        | (clear tk1; go_at_call 81; refine (goodPool_any A n c ts A' n' c' ss U k e0 us _ (hh.out.up u.out) (hh'.out.up' u.out) (huu.out.up u.out) hn hn' hk).mono ?_; rintro e w1 ⟨rfl, b1⟩; rw [hg2]; replace u := Lib.hid (u.out.trans (b1.mono u.out.size)); clear b1))
      go_ret2
      exact ⟨by rw [hok.out, hr.out]; rfl, u.out⟩
    · have hok := Lib.hid (show wiOK ts ss vs us = true by unfold wiOK; rw [hg, hg2]; rfl)
      have hr := Lib.hid (show wiR ts ss vs us = withinB vs us by unfold wiR; rw [hok.out, Bool.true_and])
      obtain ⟨hwB, hDB⟩ := vD_pool hg2 hl.out hl'.out hlu.out hn hn'
      obtain ⟨hwA, _⟩ := vD_pool hg hl.out hl'.out hlv.out hn hn'
      have hwB' := Lib.hid hwB; have hDB' := Lib.hid hDB; have hwA' := Lib.hid hwA
      clear hwB hDB hwA
      have hmm := @run_makeMap Try.prog
      go_enter Try.func53, Try.ntmps53
      have tk0 : True := trivial
      go_wp2_with (first
        | (clear tk0; go_at_call 81; refine (goodPool_any A n c ts A' n' c' ss V m d vs _ (hh.out.up u.out) (hh'.out.up' u.out) (hvv.out.up u.out) hn hn' hm).mono ?_; rintro e w1 ⟨rfl, b1⟩; rw [hg]; replace u := Lib.hid (u.out.trans (b1.mono u.out.size)); replace q1 := Lib.hid (rowIs_below q1.out b1 q1.out.lt); replace q2 := Lib.hid (rowIs_below q2.out b1 q2.out.lt); clear b1 hc1 hc2; have hc1 := q1.out.cell (i := 0) (by omega); have hc2 := q2.out.cell (i := 0) (by omega); have tk1 : True := trivial)
        | (clear tk1; go_at_call 81; refine (goodPool_any A n c ts A' n' c' ss U k e0 us _ (hh.out.up u.out) (hh'.out.up' u.out) (huu.out.up u.out) hn hn' hk).mono ?_; rintro e w2 ⟨rfl, b1⟩; rw [hg2]; replace u := Lib.hid (u.out.trans (b1.mono u.out.size)); replace q1 := Lib.hid (rowIs_below q1.out b1 q1.out.lt); replace q2 := Lib.hid (rowIs_below q2.out b1 q2.out.lt); clear b1 hc1 hc2; have hc1 := q1.out.cell (i := 0) (by omega); have hc2 := q2.out.cell (i := 0) (by omega); have hc2m := (rowIs_below q2.out (bx_below w2 (.map #[] 0)) q2.out.lt).cell (i := 0) (by omega); have tk2 : True := trivial)
        | (clear tk2; go_at_call 91; have kk := bx_below w2 (.map #[] 0); have om0 := World.ownsMap_made w2 Try.prog 53 boE; refine (refill_any w2.heap.size 0 (.map []) U k e0 us _ om0 (huu.out.up (u.out.trans (kk.mono u.out.size))) hk hwB'.out).mono ?_; rintro e w3 ⟨rfl, om3, g3⟩; have om4 := Lib.hid om3; have lw2 := Lib.hid (show w2.heap.size ≤ (w2.alloc (.map #[] 0)).heap.size by simp); have b3 : Below w2.heap.size w2 w3 := kk.grown g3 lw2.out (fun j e => by injection e with e; omega); replace u := Lib.hid (u.out.trans (b3.mono u.out.size)); replace q1 := Lib.hid (rowIs_below q1.out b3 q1.out.lt); clear kk om0 om3 g3 b3 hc1 hc2 hc2m; have hc1 := q1.out.cell (i := 0) (by omega); have tk3 : True := trivial)
        | (clear tk3; go_at_call 92; refine (includes_any w2.heap.size k (vD us k) us V m d vs _ om4.out hDB'.out (hvv.out.up u.out) hm hwA'.out).mono ?_; rw [← hr.out]; rintro e w4 ⟨rfl, b1⟩; replace u := Lib.hid (u.out.trans (b1.mono u.out.size)); clear b1))
      go_ret2
      exact ⟨by rw [hok.out]; rfl, u.out⟩
end Go.Proofs.Ytlobjfipefibaaa
