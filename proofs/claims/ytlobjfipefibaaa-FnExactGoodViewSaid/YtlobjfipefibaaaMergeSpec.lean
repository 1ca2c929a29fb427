/- What is proved here: what the model's MergePools returns. No conditions but lengths, and a slice's room. -/
import Derived.Test.YtlobjfipefibaaaPoolOfSpec
namespace Go.Proofs.Ytlobjfipefibaaa
open Go.RowKit

def mrgOK (ts : List Blk) (ss : List Int) (a b : List Vt) : Bool := (poolOk ts ss a && poolOk ts ss b) && decide ((setV (a ++ b)).length ≤ 60)
def mrgR (ts : List Blk) (ss : List Int) (a b : List Vt) : List Vt := if mrgOK ts ss a b = true then setV (a ++ b) else []
theorem mrg_tell {ts : List Blk} {ss : List Int} {a b : List Vt} (ha : poolOk ts ss a = true) (hb : poolOk ts ss b = true) : allV a b b.length = setV (a ++ b) ∧ poolOk ts ss (setV (a ++ b)) = mrgOK ts ss a b ∧ tellR ts ss (setV (a ++ b)) = mrgR ts ss a b := by
  have h1 := (poolOk_iff'.1 ha); have h2 := (poolOk_iff'.1 hb)
  have hp : poolOk ts ss (setV (a ++ b)) = mrgOK ts ss a b := by
    rw [pool_set]; unfold mrgOK pofOK
    rw [ha, hb, Bool.true_and, Bool.true_and]
    have : votesOk ts ss (a ++ b) = true := votesOk_iff'.2 ⟨h1.1.1, fun v hv => (List.mem_append.1 hv).elim (h1.2.1 v) (h2.2.1 v)⟩
    rw [this, Bool.true_and]
  refine ⟨setV_all h1.2.2, hp, ?_⟩
  unfold tellR mrgR; rw [hp]
set_option maxRecDepth 100000 in
set_option maxHeartbeats 1600000 in
theorem specMergePools_any (A : Option Addr) (n c : Nat) (ts : List Blk) (A' : Option Addr) (n' c' : Nat) (ss : List Int) (V : Option Addr) (m d : Nat) (vs : List Vt) (V' : Option Addr) (m' d' : Nat) (vs' : List Vt) (w : World) (h : BlksAt w w.heap.size A n ts) (h' : IntsAt w w.heap.size A' n' ss) (hv : VotesAt w w.heap.size V m vs) (hv' : VotesAt w w.heap.size V' m' vs') (hn : n ≤ 1048576) (hn' : n' ≤ 1048576) (hm : m ≤ 1048576) (hm' : m' ≤ 1048576) (hcap : m ≤ d) (hnil : V = none → m = 0 ∧ d = 0) :
    Calls Try.prog 35 #[.slice A n c, .slice A' n' c', .agg #[.slice V m d], .agg #[.slice V' m' d']] w (RetPool w (mrgOK ts ss vs vs') (mrgR ts ss vs vs')) := by
  have hlv := Lib.hid hv.1; have hlv' := Lib.hid hv'.1
  have hh := Lib.hid h; have hh' := Lib.hid h'; have hvv := Lib.hid hv; have hvv' := Lib.hid hv'; have hnil' := Lib.hid hnil; clear h h' hv hv' hnil
  obtain ⟨r1, r2, rR, bW, sW⟩ := bx3_rows w (.slice V m d) (.slice V' m' d') (.slice none 0 0) 29 29 29
  have hc1 := r1.cell (i := 0) (by omega)
  have hc2 := r2.cell (i := 0) (by omega)
  have q1 := Lib.hid r1; have q2 := Lib.hid r2
  have qR := Lib.hid rR; have u := Lib.hid bW
  clear bW sW rR r1 r2
  cases hg : poolOk ts ss vs
  · skip
    have hok := Lib.hid (show mrgOK ts ss vs vs' = false by unfold mrgOK; rw [hg]; simp)
    have hr := Lib.hid (show mrgR ts ss vs vs' = [] by unfold mrgR; rw [if_neg (by rw [hok.out]; decide)])
    go_enter Try.func35, Try.ntmps35
    have tk0 : True := trivial
    have tk1 : True := trivial
    go_wp2_with (first
      | (clear tk0; go_at_call 78; refine (specGoodPool_any A n c ts A' n' c' ss V m d vs _ (hh.out.up u.out) (hh'.out.up' u.out) (hvv.out.up u.out) hn hn' hm).mono ?_; rintro e w1 ⟨rfl, b1⟩; rw [hg]; replace u := Lib.hid (u.out.trans (b1.mono u.out.size)); replace q1 := Lib.hid (rowIs_below q1.out b1 q1.out.lt); replace q2 := Lib.hid (rowIs_below q2.out b1 q2.out.lt); replace qR := Lib.hid (rowIs_below qR.out b1 qR.out.lt); clear b1 hc1 hc2; have hc1 := q1.out.cell (i := 0) (by omega); have hc2 := q2.out.cell (i := 0) (by omega); have hcR := qR.out.cell (i := 0) (by omega); have hfR := qR.out.frozen 0))
    refine bodyPost_ret (results_row2 rfl _ _ (w.heap.size + 2) 29 #[.slice none 0 0] (0, 0) _ rfl (pl_one_set qR.out _) Try.underlying29 rfl (by kernel_rfl)) rfl ?_
    exact ⟨none, 0, 0, by rw [hok.out]; rfl, by rw [hr.out]; exact OwnV.nil _ _, u.out.setCell (by show w.heap.size ≤ w.heap.size + 2; omega) _⟩
  · skip
    cases hg' : poolOk ts ss vs'
    · skip
      have hok := Lib.hid (show mrgOK ts ss vs vs' = false by unfold mrgOK; rw [hg']; simp)
      have hr := Lib.hid (show mrgR ts ss vs vs' = [] by unfold mrgR; rw [if_neg (by rw [hok.out]; decide)])
      go_enter Try.func35, Try.ntmps35
      have tk0 : True := trivial
      have tk1 : True := trivial
      go_wp2_with (first
        | (clear tk0; go_at_call 78; refine (specGoodPool_any A n c ts A' n' c' ss V m d vs _ (hh.out.up u.out) (hh'.out.up' u.out) (hvv.out.up u.out) hn hn' hm).mono ?_; rintro e w1 ⟨rfl, b1⟩; rw [hg]; replace u := Lib.hid (u.out.trans (b1.mono u.out.size)); replace q1 := Lib.hid (rowIs_below q1.out b1 q1.out.lt); replace q2 := Lib.hid (rowIs_below q2.out b1 q2.out.lt); replace qR := Lib.hid (rowIs_below qR.out b1 qR.out.lt); clear b1 hc1 hc2; have hc1 := q1.out.cell (i := 0) (by omega); have hc2 := q2.out.cell (i := 0) (by omega); have hcR := qR.out.cell (i := 0) (by omega); have hfR := qR.out.frozen 0)
        | (clear tk1; go_at_call 78; refine (specGoodPool_any A n c ts A' n' c' ss V' m' d' vs' _ (hh.out.up u.out) (hh'.out.up' u.out) (hvv'.out.up u.out) hn hn' hm').mono ?_; rintro e w1 ⟨rfl, b1⟩; rw [hg']; replace u := Lib.hid (u.out.trans (b1.mono u.out.size)); replace q1 := Lib.hid (rowIs_below q1.out b1 q1.out.lt); replace q2 := Lib.hid (rowIs_below q2.out b1 q2.out.lt); replace qR := Lib.hid (rowIs_below qR.out b1 qR.out.lt); clear b1 hc1 hc2 hcR hfR; have hc1 := q1.out.cell (i := 0) (by omega); have hc2 := q2.out.cell (i := 0) (by omega); have hcR := qR.out.cell (i := 0) (by omega); have hfR := qR.out.frozen 0))
      refine bodyPost_ret (results_row2 rfl _ _ (w.heap.size + 2) 29 #[.slice none 0 0] (0, 0) _ rfl (pl_one_set qR.out _) Try.underlying29 rfl (by kernel_rfl)) rfl ?_
      exact ⟨none, 0, 0, by rw [hok.out]; rfl, by rw [hr.out]; exact OwnV.nil _ _, u.out.setCell (by show w.heap.size ≤ w.heap.size + 2; omega) _⟩
    · skip
      have hm60 : m ≤ 60 := by rw [← hlv.out]; exact (poolOk_iff'.1 hg).1.2
      have hm60' : m' ≤ 60 := by rw [← hlv'.out]; exact (poolOk_iff'.1 hg').1.2
      obtain ⟨e1, e2, e3⟩ := mrg_tell hg hg'
      rw [hlv'.out] at e1
      have k1 := Lib.hid e1; have k2 := Lib.hid e2; have k3 := Lib.hid e3; clear e1 e2 e3
      have ksl := Lib.hid (setV_len (vs ++ vs'))
      have klen : vs.length + vs'.length ≤ 120 := by rw [hlv.out, hlv'.out]; omega
      go_enter Try.func35, Try.ntmps35
      have tk0 : True := trivial
      have tk1 : True := trivial
      go_wp2_with (first
        | (clear tk0; go_at_call 78; refine (specGoodPool_any A n c ts A' n' c' ss V m d vs _ (hh.out.up u.out) (hh'.out.up' u.out) (hvv.out.up u.out) hn hn' hm).mono ?_; rintro e w1 ⟨rfl, b1⟩; rw [hg]; replace u := Lib.hid (u.out.trans (b1.mono u.out.size)); replace q1 := Lib.hid (rowIs_below q1.out b1 q1.out.lt); replace q2 := Lib.hid (rowIs_below q2.out b1 q2.out.lt); replace qR := Lib.hid (rowIs_below qR.out b1 qR.out.lt); clear b1 hc1 hc2; have hc1 := q1.out.cell (i := 0) (by omega); have hc2 := q2.out.cell (i := 0) (by omega); have hcR := qR.out.cell (i := 0) (by omega); have hfR := qR.out.frozen 0)
        | (clear tk1; go_at_call 78; refine (specGoodPool_any A n c ts A' n' c' ss V' m' d' vs' _ (hh.out.up u.out) (hh'.out.up' u.out) (hvv'.out.up u.out) hn hn' hm').mono ?_; rintro e w1 ⟨rfl, b1⟩; rw [hg']; replace u := Lib.hid (u.out.trans (b1.mono u.out.size)); replace q1 := Lib.hid (rowIs_below q1.out b1 q1.out.lt); replace q2 := Lib.hid (rowIs_below q2.out b1 q2.out.lt); replace qR := Lib.hid (rowIs_below qR.out b1 qR.out.lt); clear b1 hc1 hc2 hcR hfR; have hc1 := q1.out.cell (i := 0) (by omega); have hc2 := q2.out.cell (i := 0) (by omega); have hcR := qR.out.cell (i := 0) (by omega); have hfR := qR.out.frozen 0)
        | (go_at_call 70; refine (l6All_any V m d vs V' m' d' vs' _ (hvv.out.up u.out) (hvv'.out.up u.out) (by omega) hcap hnil'.out).mono ?_; rw [k1.out]; rintro e w2 ⟨A2, n2, c2, rfl, v2, cap2, nil2, b2⟩; have z2 := Lib.hid v2; have y2 := Lib.hid nil2; replace u := Lib.hid (u.out.trans (b2.mono u.out.size)); replace qR := Lib.hid (rowIs_below qR.out b2 qR.out.lt); clear v2 nil2 b2 hcR hfR hc1 hc2)
        | (go_at_call 69; refine (l6Tell_any A n c ts A' n' c' ss A2 n2 c2 (setV (vs ++ vs')) _ (hh.out.up u.out) (hh'.out.up' u.out) z2.out hn hn' (by have a1 := z2.out.1; have a2 := ksl.out; rw [List.length_append] at a2; omega) y2.out).mono ?_; rw [k2.out, k3.out]; rintro e w3 ⟨A3, n3, c3, rfl, o3, b3⟩; have o4 := Lib.hid o3; have lR := Lib.hid qR.out.lt; replace u := Lib.hid (u.out.trans (b3.mono u.out.size)); replace qR := Lib.hid (rowIs_below qR.out b3 qR.out.lt); clear o3 b3; have hcR := qR.out.cell (i := 0) (by omega); have hfR := qR.out.frozen 0))
      refine bodyPost_ret (results_row2 rfl _ _ (w.heap.size + 2) 29 #[.slice A3 n3 c3] (0, 0) _ rfl (pl_one_set qR.out _) Try.underlying29 rfl (by kernel_rfl)) rfl ?_
      exact ⟨A3, n3, c3, rfl, (o4.out.setBox lR.out _).fewer (by have := lR.out; omega), u.out.setCell (by show w.heap.size ≤ w.heap.size + 2; omega) _⟩
end Go.Proofs.Ytlobjfipefibaaa
