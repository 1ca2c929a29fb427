/- What is proved here: what the program's PoolOf returns. No conditions but lengths. -/
import Derived.Test.YtlobjfipefibaaaVSetImpl
import Derived.Test.YtlobjfipefibaaaPoolOfSpec
namespace Go.Proofs.Ytlobjfipefibaaa
open Go.RowKit Go.Maps Go.Sort Go.Shelf Go.Lib

/-- What the program needs of a list of valid votes. -/
theorem set_of_ok {ts : List Blk} {ss : List Int} {vs : List Vt} {m n n' : Nat} (h : votesOk ts ss vs = true) (hl : ts.length = n) (hl' : ss.length = n') (hv : vs.length = m) (hn : n ≤ 1048576) (hn' : n' ≤ 1048576) :
    (∀ j, j < m → wfV (getV vs j)) ∧ Maps.size (vD vs m) = (setV vs).length ∧ ∀ us : List Vt, (us.Nodup ∧ (∀ x ∈ us, wfV x) ∧ ∀ x, wfV x → (x ∈ us ↔ Maps.has (vD vs m) (kv x) = true)) → sortV us = setV vs := by
  have hw : ∀ j, j < m → wfV (getV vs j) := fun j hj => wfV_of_ok ((votesOk_iff.1 h).2 j (by omega)) (by omega) (by omega)
  have hall : allV [] vs m = setV vs := by unfold setV; rw [hv]
  refine ⟨hw, by rw [vD_size m hw, hall], fun us hu => sortV_set hu.1 fun x => ?_⟩
  constructor
  · intro hx
    have := (hu.2.2 x (hu.2.1 x hx)).1 hx
    rw [vD_has (hu.2.1 x hx) m hw, decide_eq_true_iff, hall, setV_mem] at this
    exact this
  · intro hx
    obtain ⟨j, hj, e⟩ := get_mem.2 hx
    have hwx : wfV x := by rw [← e]; exact hw j (by omega)
    rw [hu.2.2 x hwx, vD_has hwx m hw, decide_eq_true_iff, hall, setV_mem]
    exact hx

set_option maxRecDepth 100000 in
set_option maxHeartbeats 1600000 in
theorem implPoolOf_any (A : Option Addr) (n c : Nat) (ts : List Blk) (A' : Option Addr) (n' c' : Nat) (ss : List Int) (V : Option Addr) (m d : Nat) (vs : List Vt) (w : World) (h : BlksAt w w.heap.size A n ts) (h' : IntsAt w w.heap.size A' n' ss) (hv : VotesAt w w.heap.size V m vs) (hn : n ≤ 1048576) (hn' : n' ≤ 1048576) (hm : m ≤ 1048576) :
    Calls Try.prog 20 #[.slice A n c, .slice A' n' c', .slice V m d] w (RetPool w (pofOK ts ss vs) (pofR ts ss vs)) := by
  have hl := Lib.hid h.1; have hl' := Lib.hid h'.1; have hlv := Lib.hid hv.1
  have hh := Lib.hid h; have hh' := Lib.hid h'; have hvv := Lib.hid hv; clear h h' hv
  obtain ⟨rR, bW, sW⟩ := bx1_rows w (.slice none 0 0) 29
  have qR := Lib.hid rR; have u := Lib.hid bW
  clear rR bW sW
  cases hg : votesOk ts ss vs
  · have hok := Lib.hid (show pofOK ts ss vs = false by unfold pofOK; rw [hg]; rfl)
    have hr := Lib.hid (show pofR ts ss vs = [] by unfold pofR; rw [if_neg (by rw [hok.out]; decide)])
    go_enter Try.func20, Try.ntmps20
    go_wp2_with (go_at_call 72; refine (areVotes_any A n c ts A' n' c' ss V m d vs _ (hh.out.up u.out) (hh'.out.up' u.out) (hvv.out.up u.out) hn hn' hm).mono ?_; rintro e w1 ⟨rfl, b1⟩; rw [hg]; replace u := Lib.hid (u.out.trans (b1.mono u.out.size)); replace qR := Lib.hid (rowIs_below qR.out b1 qR.out.lt); clear b1; have hcR := qR.out.cell (i := 0) (by omega); have hfR := qR.out.frozen 0)
    refine bodyPost_ret (results_row2 rfl _ _ (w.heap.size) 29 #[.slice none 0 0] (0, 0) _ rfl (pl_one_set qR.out _) Try.underlying29 rfl (by kernel_rfl)) rfl ?_
    exact ⟨none, 0, 0, by rw [hok.out]; rfl, by rw [hr.out]; exact OwnV.nil _ _, u.out.setCell (by show w.heap.size ≤ w.heap.size; omega) _⟩
  · obtain ⟨hw, hsz, huq⟩ := set_of_ok hg hl.out hl'.out hlv.out hn hn'
    have hsz' := Lib.hid hsz; have huq' := Lib.hid huq; have hww := Lib.hid hw
    clear hsz huq hw
    have hset := fun W hW => setOf_any V m d vs W hW hm hww.out
    have hset' := Lib.hid hset; clear hset
    by_cases h60 : (setV vs).length ≤ 60
    · have hok := Lib.hid (show pofOK ts ss vs = true by unfold pofOK; rw [hg, decide_eq_true h60]; rfl)
      have hr := Lib.hid (show pofR ts ss vs = setV vs by unfold pofR; rw [if_pos hok.out])
      have hsI : ¬ (60 : Int) < (Maps.size (vD vs m) : Int) := by rw [hsz'.out]; omega
      go_enter Try.func20, Try.ntmps20
      have tk0 : True := trivial
      go_wp2_with (first
        | (clear tk0; go_at_call 72; refine (areVotes_any A n c ts A' n' c' ss V m d vs _ (hh.out.up u.out) (hh'.out.up' u.out) (hvv.out.up u.out) hn hn' hm).mono ?_; rintro e w1 ⟨rfl, b1⟩; rw [hg]; replace u := Lib.hid (u.out.trans (b1.mono u.out.size)); replace qR := Lib.hid (rowIs_below qR.out b1 qR.out.lt); clear b1; have tk1 : True := trivial)
        | (clear tk1; go_at_call 73; refine (hset'.out _ (hvv.out.up u.out)).mono ?_; rintro e w2 ⟨mb, rfl, om, lo, b2⟩; have om' := Lib.hid om; replace u := Lib.hid (u.out.trans (b2.mono u.out.size)); replace qR := Lib.hid (rowIs_below qR.out b2 qR.out.lt); clear b2 om lo; have tk2 : True := trivial)
        | (clear tk2; at_len; refine wpList_len_own _ rfl _ 97 rfl 53 4 Try.underlying97 boE mb m (vD vs m) rfl om'.out ?_; have tk3 : True := trivial)
        | (clear tk3; go_at_call 74; refine (inOrder_any mb m (vD vs m) _ om'.out hm).mono ?_; rintro e w3 ⟨us, hus, A3, n3, c3, rfl, o3, b3⟩; rw [huq'.out us hus] at o3; have o4 := Lib.hid o3; have lR := Lib.hid qR.out.lt; replace u := Lib.hid (u.out.trans (b3.mono u.out.size)); replace qR := Lib.hid (rowIs_below qR.out b3 qR.out.lt); clear o3 b3 hus; have hcR := qR.out.cell (i := 0) (by omega); have hfR := qR.out.frozen 0))
      refine bodyPost_ret (results_row2 rfl _ _ (w.heap.size) 29 #[.slice A3 n3 c3] (0, 0) _ rfl (pl_one_set qR.out _) Try.underlying29 rfl (by kernel_rfl)) rfl ?_
      exact ⟨A3, n3, c3, by rw [hok.out]; rfl, by rw [hr.out]; exact (o4.out.setBox lR.out _).fewer (by have := lR.out; omega), u.out.setCell (by show w.heap.size ≤ w.heap.size; omega) _⟩
    · have hok := Lib.hid (show pofOK ts ss vs = false by unfold pofOK; rw [hg, decide_eq_false h60]; rfl)
      have hr := Lib.hid (show pofR ts ss vs = [] by unfold pofR; rw [if_neg (by rw [hok.out]; decide)])
      have hsI : (60 : Int) < (Maps.size (vD vs m) : Int) := by rw [hsz'.out]; omega
      go_enter Try.func20, Try.ntmps20
      have tk0 : True := trivial
      go_wp2_with (first
        | (clear tk0; go_at_call 72; refine (areVotes_any A n c ts A' n' c' ss V m d vs _ (hh.out.up u.out) (hh'.out.up' u.out) (hvv.out.up u.out) hn hn' hm).mono ?_; rintro e w1 ⟨rfl, b1⟩; rw [hg]; replace u := Lib.hid (u.out.trans (b1.mono u.out.size)); replace qR := Lib.hid (rowIs_below qR.out b1 qR.out.lt); clear b1; have tk1 : True := trivial)
        | (clear tk1; go_at_call 73; refine (hset'.out _ (hvv.out.up u.out)).mono ?_; rintro e w2 ⟨mb, rfl, om, lo, b2⟩; have om' := Lib.hid om; replace u := Lib.hid (u.out.trans (b2.mono u.out.size)); replace qR := Lib.hid (rowIs_below qR.out b2 qR.out.lt); clear b2 om lo; have hcR := qR.out.cell (i := 0) (by omega); have hfR := qR.out.frozen 0; have tk2 : True := trivial)
        | (clear tk2; at_len; refine wpList_len_own _ rfl _ 97 rfl 53 4 Try.underlying97 boE mb m (vD vs m) rfl om'.out ?_))
      refine bodyPost_ret (results_row2 rfl _ _ (w.heap.size) 29 #[.slice none 0 0] (0, 0) _ rfl (pl_one_set qR.out _) Try.underlying29 rfl (by kernel_rfl)) rfl ?_
      exact ⟨none, 0, 0, by rw [hok.out]; rfl, by rw [hr.out]; exact OwnV.nil _ _, u.out.setCell (by show w.heap.size ≤ w.heap.size; omega) _⟩
end Go.Proofs.Ytlobjfipefibaaa
