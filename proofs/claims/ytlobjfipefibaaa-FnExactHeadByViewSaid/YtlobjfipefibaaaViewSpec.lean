/- What is proved here: what the model's l9Within, GoodView, l9Own and IsWithin return. No conditions but lengths, and a slice's room. -/
import Derived.Test.YtlobjfipefibaaaViewFacts
import Derived.Test.YtlobjfipefibaaaViewBox
import Derived.Test.YtlobjfipefibaaaPutImpl
import Derived.Deep.Cut
import Derived.Deep.RegionWith
namespace Go.Proofs.Ytlobjfipefibaaa
open Go.RowKit

theorem allV_len120 {b a : List Vt} {n m : Nat} (hb : b.length = n) (_ha : a.length = m) (hn : n ≤ 60) (hm : m ≤ 60) : (allV b a m).length ≤ 120 := by
  have := allV_len b a m; omega
set_option maxRecDepth 100000 in
set_option maxHeartbeats 800000 in
theorem l9Within_any (V : Option Addr) (m d : Nat) (xs : List Vt) (U : Option Addr) (k e0 : Nat) (ys : List Vt) (w : World) (hv : VotesAt w w.heap.size V m xs) (hu : VotesAt w w.heap.size U k ys) (hm : m ≤ 60) (hk : k ≤ 60) (hd : k ≤ e0) (hnil' : U = none → k = 0 ∧ e0 = 0) (hs : ys.Pairwise LtV) :
    Calls Try.prog 84 #[.agg #[.slice V m d], .agg #[.slice U k e0]] w fun e w' => e = .returned (.bool (withinB xs ys)) ∧ Below w.heap.size w w' := by
  have hlv := Lib.hid hv.1; have hlu := Lib.hid hu.1
  have hvv := Lib.hid hv; have huu := Lib.hid hu; have hni := Lib.hid hnil'; clear hv hu hnil'
  obtain ⟨r1, r2, bW, sW⟩ := bx2_rows w (.slice V m d) (.slice U k e0) 29 29
  have q1 := Lib.hid r1; have q2 := Lib.hid r2; have u := Lib.hid bW
  have hc1 := q1.out.cell (i := 0) (by omega); have hc2 := q2.out.cell (i := 0) (by omega)
  have hr := Lib.hid (within_len (a := xs) (b := ys) hs)
  obtain ⟨K, hK⟩ : ∃ K, (allV ys xs m).length = K := ⟨_, rfl⟩
  have hK' := Lib.hid hK
  have hK1 : K ≤ 120 := by rw [← hK]; exact allV_len120 hlu.out hlv.out hk hm
  have hkk := Lib.hid (show decide ((K : Int) = (k : Int)) = withinB xs ys by
    rw [← hr.out]
    have e1 : xs.length = m := hlv.out
    have e2 : ys.length = k := hlu.out
    rw [e1, e2, hK, decide_eq_decide]
    omega)
  have kb := Lib.hid (cells_of_votes hvv.out u.out)
  clear r1 r2 bW sW hK
  go_enter Try.func84, Try.ntmps84
  obtain ⟨W, hW⟩ : ∃ W, (w.alloc (.cells #[.slice V m d] 29)).alloc (.cells #[.slice U k e0] 29) = W := ⟨_, rfl⟩
  rw [hW] at u q1 q2 hc1 hc2
  have hT := Lib.hid (fun nq => l6All_any U k e0 ys V m d xs (W.drewN nq) (show VotesAt (W.drewN nq) (W.drewN nq).heap.size U k ys from ⟨(huu.out.up u.out).1, (huu.out.up u.out).2⟩) (show VotesAt (W.drewN nq) (W.drewN nq).heap.size V m xs from ⟨(hvv.out.up u.out).1, (hvv.out.up u.out).2⟩) (by omega) hd hni.out)
  go_upto_region 1 with fail
  clear hW
  go_region_with (first
    | (go_at_call 70
       refine (hT.out _).mono ?_
       rintro e w1 ⟨A1, n1, c1, rfl, v1, cap1, nil1, b1⟩
       have z1 := Lib.hid v1.1
       have u1 := Lib.hid (u.out.trans ((show Below W.heap.size W w1 from ⟨b1.os, b1.tape, b1.output, b1.size, b1.block⟩).mono u.out.size))
       have p1 := (rowIs_below q1.out (show Below W.heap.size W w1 from ⟨b1.os, b1.tape, b1.output, b1.size, b1.block⟩) q1.out.lt).cell (i := 0) (by omega)
       have p2 := (rowIs_below q2.out (show Below W.heap.size W w1 from ⟨b1.os, b1.tape, b1.output, b1.size, b1.block⟩) q2.out.lt).cell (i := 0) (by omega)
       obtain rfl : K = n1 := by rw [← hK'.out]; exact v1.1
       clear v1 cap1 nil1 b1))
  all_goals
    go_wp2_with fail
    go_ret
    exact ⟨ret_bool (by rw [← hkk.out]; rfl), u1.out⟩
set_option maxRecDepth 100000 in
set_option maxHeartbeats 800000 in
theorem l9Own_any (V : Option Addr) (m d : Nat) (vs : List Vt) (w : World) (hv : VotesAt w w.heap.size V m vs) (hm : m ≤ 1048576) (hnil : V = none → m = 0 ∧ d = 0) :
    Calls Try.prog 86 #[.agg #[.slice V m d]] w (RetPl w vs) := by
  have hlv := Lib.hid hv.1
  have hvv := Lib.hid hv; have hnil' := Lib.hid hnil; clear hv hnil
  obtain ⟨r1, r2, bW, sW⟩ := bx2_rows w (.slice V m d) (.slice none 0 0) 29 29
  have hc1 := r1.cell (i := 0) (by omega)
  have qR := Lib.hid r2; have u := Lib.hid bW
  have s0 := Lib.hid (World.ownsRow_made (base := w.heap.size + 2) (e := 53) (size := 3) ((w.alloc (.cells #[.slice V m d] 29)).alloc (.cells #[.slice none 0 0] 29)) #[] 0 (Nat.le_of_eq sW.symm) (by decide) rfl)
  rw [sW] at s0
  have u0 := Lib.hid (bW.trans ((bx_below ((w.alloc (.cells #[.slice V m d] 29)).alloc (.cells #[.slice none 0 0] 29)) (.cells #[] 53)).mono bW.size))
  have hcl := Lib.hid (cells_of_votes hvv.out u0.out)
  have hcr := (rowIs_below r1 (bx_below ((w.alloc (.cells #[.slice V m d] 29)).alloc (.cells #[.slice none 0 0] 29)) (.cells #[] 53)) r1.lt).cell (i := 0) (by omega)
  clear r1 r2 bW sW
  go_enter Try.func86, Try.ntmps86
  go_wp2_with (at_builtin
               refine appendSlV _ rfl (.tmp 3) (.tmp 5) 27 rfl (w.heap.size + 2) Try.underlying27 _ [] rfl s0.out V m d vs hlv.out rfl hnil'.out (fun ad e t ht => hcl.out ad e t ht _ (Below.refl _ _)) (by simp; omega) (by simp) ?_
               intro v1 w1 o1 g1 a1
               have f1 : Below (w.heap.size + 2) ((w.alloc (.cells #[.slice V m d] 29)).alloc (.cells #[.slice none 0 0] 29)) w1 := (((Below.refl (w.heap.size + 2) ((w.alloc (.cells #[.slice V m d] 29)).alloc (.cells #[.slice none 0 0] 29))).alloc (by simp) (.cells #[] 53)).grown g1 (by simp) (fun q e => by cases e; exact Nat.le_refl _))
               rw [List.nil_append] at o1
               obtain ⟨A1, c1, e1, p1⟩ := OwnV.of_owns o1
               rw [hlv.out] at e1 p1
               subst e1
               have p1' := Lib.hid p1
               replace qR := Lib.hid (rowIs_below qR.out f1 (by omega))
               replace u := Lib.hid (u.out.trans (f1.mono (Nat.le_add_right _ _)))
               clear o1 g1 a1 p1 f1 hc1 hcr
               have hcR := qR.out.cell (i := 0) (by omega)
               have hfR := qR.out.frozen 0)
  refine bodyPost_ret (results_cell_row rfl _ _ (w.heap.size + 1) 29 #[.slice A1 m c1] (0, 0) _ rfl (pl_one_set qR.out _) Try.underlying29 rfl (by kernel_rfl)) rfl ?_
  exact ⟨A1, m, c1, rfl, (p1'.out.setBox (by omega) _).fewer (by omega), u.out.setCell (by show w.heap.size ≤ w.heap.size + 1; omega) _⟩

set_option maxRecDepth 100000 in
set_option maxHeartbeats 800000 in
theorem specGoodView_any (A : Option Addr) (n c : Nat) (ts : List Blk) (A' : Option Addr) (n' c' : Nat) (ss : List Int) (V : Option Addr) (m d : Nat) (vs : List Vt) (U : Option Addr) (k e0 : Nat) (us : List Vt) (w : World) (h : BlksAt w w.heap.size A n ts) (h' : IntsAt w w.heap.size A' n' ss) (hv : VotesAt w w.heap.size V m vs) (hu : VotesAt w w.heap.size U k us) (hn : n ≤ 1048576) (hn' : n' ≤ 1048576) (hm : m ≤ 1048576) (hk : k ≤ 1048576) (hc : m ≤ d) (hnil : V = none → m = 0 ∧ d = 0) (_hd : k ≤ e0) (_hnil' : U = none → k = 0 ∧ e0 = 0) :
    Calls Try.prog 38 #[.slice A n c, .slice A' n' c', .agg #[.slice V m d, .slice U k e0]] w (UpPost w (.bool (viewOk ts ss vs us))) := by
  have hh := Lib.hid h; have hh' := Lib.hid h'; have hvv := Lib.hid hv; have huu := Lib.hid hu; have hni := Lib.hid hnil
  have hlv := Lib.hid hv.1; have hlu := Lib.hid hu.1
  clear h h' hv hu hnil
  have qv := Lib.hid (bx_row2 w (.slice V m d) (.slice U k e0) 63)
  have u := Lib.hid (bx_below w (.cells #[.slice V m d, .slice U k e0] 63))
  have x0 := row2_0 qv.out; have x1 := row2_1 qv.out
  cases hg : poolOk ts ss vs
  · have hr := Lib.hid (show viewOk ts ss vs us = false by unfold viewOk; rw [hg]; rfl)
    go_enter Try.func38, Try.ntmps38
    go_wp2_with (go_at_call 78; refine (specGoodPool_any A n c ts A' n' c' ss V m d vs _ (hh.out.up u.out) (hh'.out.up' u.out) (hvv.out.up u.out) hn hn' hm).mono ?_; rintro e w1 ⟨rfl, b1⟩; rw [hg]; replace u := Lib.hid (u.out.trans (b1.mono u.out.size)); clear b1)
    go_ret
    exact ⟨ret_bool hr.out.symm, u.out⟩
  · cases hg2 : poolOk ts ss us
    · have hr := Lib.hid (show viewOk ts ss vs us = false by unfold viewOk; rw [hg2]; simp)
      go_enter Try.func38, Try.ntmps38
      have tk0 : True := trivial
      go_wp2_with (first
        | (clear tk0; go_at_call 78; refine (specGoodPool_any A n c ts A' n' c' ss V m d vs _ (hh.out.up u.out) (hh'.out.up' u.out) (hvv.out.up u.out) hn hn' hm).mono ?_; rintro e w1 ⟨rfl, b1⟩; rw [hg]; replace u := Lib.hid (u.out.trans (b1.mono u.out.size)); replace qv := Lib.hid (rowIs_below qv.out b1 qv.out.lt); clear b1 x0 x1; have x0 := row2_0 qv.out; have x1 := row2_1 qv.out; have tk1 : True := trivial)
        | (clear tk1; go_at_call 78; refine (specGoodPool_any A n c ts A' n' c' ss U k e0 us _ (hh.out.up u.out) (hh'.out.up' u.out) (huu.out.up u.out) hn hn' hk).mono ?_; rintro e w1 ⟨rfl, b1⟩; rw [hg2]; replace u := Lib.hid (u.out.trans (b1.mono u.out.size)); clear b1))
      go_ret
      exact ⟨ret_bool hr.out.symm, u.out⟩
    · have hr := Lib.hid (show viewOk ts ss vs us = withinB us vs by unfold viewOk; rw [hg, hg2, Bool.true_and, Bool.true_and])
      have hm60 := Lib.hid (show m ≤ 60 by rw [← hlv.out]; exact pool_len60 hg)
      have hk60 := Lib.hid (show k ≤ 60 by rw [← hlu.out]; exact pool_len60 hg2)
      have hso := Lib.hid (poolOk_iff'.1 hg).2.2
      obtain ⟨r, hrr⟩ : ∃ r, withinB us vs = r := ⟨_, rfl⟩
      rw [hrr] at hr
      have hrr' := Lib.hid hrr; clear hrr
      cases r
      all_goals
        go_enter Try.func38, Try.ntmps38
        have tk0 : True := trivial
        go_wp2_with (first
          | (clear tk0; go_at_call 78; refine (specGoodPool_any A n c ts A' n' c' ss V m d vs _ (hh.out.up u.out) (hh'.out.up' u.out) (hvv.out.up u.out) hn hn' hm).mono ?_; rintro e w1 ⟨rfl, b1⟩; rw [hg]; replace u := Lib.hid (u.out.trans (b1.mono u.out.size)); replace qv := Lib.hid (rowIs_below qv.out b1 qv.out.lt); clear b1 x0 x1; have x0 := row2_0 qv.out; have x1 := row2_1 qv.out; have tk1 : True := trivial)
          | (clear tk1; go_at_call 78; refine (specGoodPool_any A n c ts A' n' c' ss U k e0 us _ (hh.out.up u.out) (hh'.out.up' u.out) (huu.out.up u.out) hn hn' hk).mono ?_; rintro e w1 ⟨rfl, b1⟩; rw [hg2]; replace u := Lib.hid (u.out.trans (b1.mono u.out.size)); replace qv := Lib.hid (rowIs_below qv.out b1 qv.out.lt); clear b1 x0 x1; have x0 := row2_0 qv.out; have x1 := row2_1 qv.out; have tk2 : True := trivial)
          | (clear tk2; go_at_call 84; refine (l9Within_any U k e0 us V m d vs _ (huu.out.up u.out) (hvv.out.up u.out) hk60.out hm60.out hc hni.out hso.out).mono ?_; rw [hrr'.out]; rintro e w3 ⟨rfl, b1⟩; replace u := Lib.hid (u.out.trans (b1.mono u.out.size)); clear b1))
        go_ret
        exact ⟨ret_bool hr.out.symm, u.out⟩

set_option maxRecDepth 100000 in
set_option maxHeartbeats 800000 in
theorem specIsWithin_any (A : Option Addr) (n c : Nat) (ts : List Blk) (A' : Option Addr) (n' c' : Nat) (ss : List Int) (V : Option Addr) (m d : Nat) (vs : List Vt) (U : Option Addr) (k e0 : Nat) (us : List Vt) (w : World) (h : BlksAt w w.heap.size A n ts) (h' : IntsAt w w.heap.size A' n' ss) (hv : VotesAt w w.heap.size V m vs) (hu : VotesAt w w.heap.size U k us) (hn : n ≤ 1048576) (hn' : n' ≤ 1048576) (hm : m ≤ 1048576) (hk : k ≤ 1048576) (_hc : m ≤ d) (_hnil : V = none → m = 0 ∧ d = 0) (hd : k ≤ e0) (hnil' : U = none → k = 0 ∧ e0 = 0) :
    Calls Try.prog 52 #[.slice A n c, .slice A' n' c', .agg #[.slice V m d], .agg #[.slice U k e0]] w (UpPost w (.tuple #[.bool (wiR ts ss vs us), .bool (wiOK ts ss vs us)])) := by
  have hh := Lib.hid h; have hh' := Lib.hid h'; have hvv := Lib.hid hv; have huu := Lib.hid hu; have hni := Lib.hid hnil'
  have hlv := Lib.hid hv.1; have hlu := Lib.hid hu.1
  clear h h' hv hu hnil'
  obtain ⟨r1, r2, bW, sW⟩ := bx2_rows w (.slice V m d) (.slice U k e0) 29 29
  have q1 := Lib.hid r1; have q2 := Lib.hid r2; have u := Lib.hid bW
  have hc1 := q1.out.cell (i := 0) (by omega); have hc2 := q2.out.cell (i := 0) (by omega)
  clear r1 r2 bW sW
  cases hg : poolOk ts ss vs
  · have hok := Lib.hid (show wiOK ts ss vs us = false by unfold wiOK; rw [hg]; rfl)
    have hr := Lib.hid (show wiR ts ss vs us = false by unfold wiR; rw [hok.out]; rfl)
    go_enter Try.func52, Try.ntmps52
    go_wp2_with (go_at_call 78; refine (specGoodPool_any A n c ts A' n' c' ss V m d vs _ (hh.out.up u.out) (hh'.out.up' u.out) (hvv.out.up u.out) hn hn' hm).mono ?_; rintro e w1 ⟨rfl, b1⟩; rw [hg]; replace u := Lib.hid (u.out.trans (b1.mono u.out.size)); clear b1)
    go_ret2
    exact ⟨by rw [hok.out, hr.out]; rfl, u.out⟩
  · cases hg2 : poolOk ts ss us
    · have hok := Lib.hid (show wiOK ts ss vs us = false by unfold wiOK; rw [hg2]; simp)
      have hr := Lib.hid (show wiR ts ss vs us = false by unfold wiR; rw [hok.out]; rfl)
      go_enter Try.func52, Try.ntmps52
      have tk0 : True := trivial
      go_wp2_with (first
        | (clear tk0; go_at_call 78; refine (specGoodPool_any A n c ts A' n' c' ss V m d vs _ (hh.out.up u.out) (hh'.out.up' u.out) (hvv.out.up u.out) hn hn' hm).mono ?_; rintro e w1 ⟨rfl, b1⟩; rw [hg]; replace u := Lib.hid (u.out.trans (b1.mono u.out.size)); replace q1 := Lib.hid (rowIs_below q1.out b1 q1.out.lt); replace q2 := Lib.hid (rowIs_below q2.out b1 q2.out.lt); clear b1 hc1 hc2; have hc1 := q1.out.cell (i := 0) (by omega); have hc2 := q2.out.cell (i := 0) (by omega); have tk1 : True := trivial)
        | (clear tk1; go_at_call 78; refine (specGoodPool_any A n c ts A' n' c' ss U k e0 us _ (hh.out.up u.out) (hh'.out.up' u.out) (huu.out.up u.out) hn hn' hk).mono ?_; rintro e w1 ⟨rfl, b1⟩; rw [hg2]; replace u := Lib.hid (u.out.trans (b1.mono u.out.size)); clear b1))
      go_ret2
      exact ⟨by rw [hok.out, hr.out]; rfl, u.out⟩
    · have hok := Lib.hid (show wiOK ts ss vs us = true by unfold wiOK; rw [hg, hg2]; rfl)
      have hr := Lib.hid (show wiR ts ss vs us = withinB vs us by unfold wiR; rw [hok.out, Bool.true_and])
      have hm60 := Lib.hid (show m ≤ 60 by rw [← hlv.out]; exact pool_len60 hg)
      have hk60 := Lib.hid (show k ≤ 60 by rw [← hlu.out]; exact pool_len60 hg2)
      have hso := Lib.hid (poolOk_iff'.1 hg2).2.2
      go_enter Try.func52, Try.ntmps52
      have tk0 : True := trivial
      go_wp2_with (first
        | (clear tk0; go_at_call 78; refine (specGoodPool_any A n c ts A' n' c' ss V m d vs _ (hh.out.up u.out) (hh'.out.up' u.out) (hvv.out.up u.out) hn hn' hm).mono ?_; rintro e w1 ⟨rfl, b1⟩; rw [hg]; replace u := Lib.hid (u.out.trans (b1.mono u.out.size)); replace q1 := Lib.hid (rowIs_below q1.out b1 q1.out.lt); replace q2 := Lib.hid (rowIs_below q2.out b1 q2.out.lt); clear b1 hc1 hc2; have hc1 := q1.out.cell (i := 0) (by omega); have hc2 := q2.out.cell (i := 0) (by omega); have tk1 : True := trivial)
        | (clear tk1; go_at_call 78; refine (specGoodPool_any A n c ts A' n' c' ss U k e0 us _ (hh.out.up u.out) (hh'.out.up' u.out) (huu.out.up u.out) hn hn' hk).mono ?_; rintro e w1 ⟨rfl, b1⟩; rw [hg2]; replace u := Lib.hid (u.out.trans (b1.mono u.out.size)); replace q1 := Lib.hid (rowIs_below q1.out b1 q1.out.lt); replace q2 := Lib.hid (rowIs_below q2.out b1 q2.out.lt); clear b1 hc1 hc2; have hc1 := q1.out.cell (i := 0) (by omega); have hc2 := q2.out.cell (i := 0) (by omega); have tk2 : True := trivial)
        | (clear tk2; go_at_call 84; refine (l9Within_any V m d vs U k e0 us _ (hvv.out.up u.out) (huu.out.up u.out) hm60.out hk60.out hd hni.out hso.out).mono ?_; rw [← hr.out]; rintro e w3 ⟨rfl, b1⟩; replace u := Lib.hid (u.out.trans (b1.mono u.out.size)); clear b1))
      go_ret2
      exact ⟨by rw [hok.out]; rfl, u.out⟩
end Go.Proofs.Ytlobjfipefibaaa
