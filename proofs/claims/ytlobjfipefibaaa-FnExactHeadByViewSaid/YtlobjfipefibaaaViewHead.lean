/- What is proved here: what HeadByView of both sides returns. No conditions but lengths, and a slice's room. -/
import Derived.Test.YtlobjfipefibaaaViewFns
import Derived.Test.YtlobjfipefibaaaViewSpec2
import Derived.Test.YtlobjfipefibaaaHeadSpec
namespace Go.Proofs.Ytlobjfipefibaaa
open Go.RowKit Go.Maps Go.Sort Go.Shelf Go.Lib
def hbR (ts : List Blk) (ss : List Int) (s f : List Vt) : Int := if viewOk ts ss s f = true then headPR ts ss f else 0
set_option maxRecDepth 100000 in
set_option maxHeartbeats 1600000 in
theorem implHeadBy_any (A : Option Addr) (n c : Nat) (ts : List Blk) (A' : Option Addr) (n' c' : Nat) (ss : List Int) (V : Option Addr) (m d : Nat) (vs : List Vt) (U : Option Addr) (k e0 : Nat) (us : List Vt) (w : World) (h : BlksAt w w.heap.size A n ts) (h' : IntsAt w w.heap.size A' n' ss) (hv : VotesAt w w.heap.size V m vs) (hu : VotesAt w w.heap.size U k us) (hn : n ≤ 1048576) (hn' : n' ≤ 1048576) (hm : m ≤ 1048576) (hk : k ≤ 1048576) (hc : m ≤ d) (hnil : V = none → m = 0 ∧ d = 0) (hd : k ≤ e0) (hnil' : U = none → k = 0 ∧ e0 = 0) :
    Calls Try.prog 51 #[.slice A n c, .slice A' n' c', .agg #[.slice V m d, .slice U k e0]] w (UpPost w (.tuple #[.int .i64 (hbR ts ss vs us), .bool (viewOk ts ss vs us)])) := by
  have hl := Lib.hid h.1; have hl' := Lib.hid h'.1
  have hh := Lib.hid h; have hh' := Lib.hid h'; clear h h'
  have hvv := Lib.hid hv; have huu := Lib.hid hu; have hni := Lib.hid hnil; have hni' := Lib.hid hnil'; clear hv hu hnil hnil'
  have qv := Lib.hid (bx_row2 w (.slice V m d) (.slice U k e0) 63); have u := Lib.hid (bx_below w (.cells #[.slice V m d, .slice U k e0] 63))
  have qv_0 := row2_0 qv.out; have qv_1 := row2_1 qv.out
  cases hg : viewOk ts ss vs us
  · have hr := Lib.hid (show hbR ts ss vs us = 0 by unfold hbR; rw [if_neg (by rw [hg]; decide)])
    go_enter Try.func51, Try.ntmps51
    go_wp2_with (go_at_call 40; refine (goodViewX_any A n c ts A' n' c' ss V m d vs U k e0 us _ (hh.out.up u.out) (hh'.out.up' u.out) (hvv.out.up u.out) (huu.out.up u.out) hn hn' hm hk hc hni.out hd hni'.out).mono ?_; rintro e w1 ⟨rfl, b1⟩; rw [hg]; clear qv_0 qv_1; replace u := Lib.hid (u.out.trans (b1.mono u.out.size)); clear b1)
    go_ret2
    exact ⟨by rw [hr.out]; rfl, u.out⟩
  · have hr := Lib.hid (show hbR ts ss vs us = headPR ts ss us by unfold hbR; rw [if_pos hg])
    have hp := Lib.hid (view_f hg)
    go_enter Try.func51, Try.ntmps51
    go_wp2_with (first
      | (go_at_call 40; refine (goodViewX_any A n c ts A' n' c' ss V m d vs U k e0 us _ (hh.out.up u.out) (hh'.out.up' u.out) (hvv.out.up u.out) (huu.out.up u.out) hn hn' hm hk hc hni.out hd hni'.out).mono ?_; rintro e w1 ⟨rfl, b1⟩; rw [hg]; clear qv_0 qv_1; replace u := Lib.hid (u.out.trans (b1.mono u.out.size)); replace qv := Lib.hid (rowIs_below qv.out b1 qv.out.lt); clear b1; have qv_0 := row2_0 qv.out; have qv_1 := row2_1 qv.out; )
      | (go_at_call 90; refine (implHeadOf_any A n c ts A' n' c' ss U k e0 us _ (hh.out.up u.out) (hh'.out.up' u.out) (huu.out.up u.out) hn hn' hk).mono ?_; rw [hp.out]; rintro e w2 ⟨rfl, b1⟩; replace u := Lib.hid (u.out.trans (b1.mono u.out.size)); clear b1))
    go_ret2
    exact ⟨by rw [hr.out]; rfl, u.out⟩
set_option maxRecDepth 100000 in
set_option maxHeartbeats 1600000 in
theorem specHeadBy_any (A : Option Addr) (n c : Nat) (ts : List Blk) (A' : Option Addr) (n' c' : Nat) (ss : List Int) (V : Option Addr) (m d : Nat) (vs : List Vt) (U : Option Addr) (k e0 : Nat) (us : List Vt) (w : World) (h : BlksAt w w.heap.size A n ts) (h' : IntsAt w w.heap.size A' n' ss) (hv : VotesAt w w.heap.size V m vs) (hu : VotesAt w w.heap.size U k us) (hn : n ≤ 1048576) (hn' : n' ≤ 1048576) (hm : m ≤ 1048576) (hk : k ≤ 1048576) (hc : m ≤ d) (hnil : V = none → m = 0 ∧ d = 0) (hd : k ≤ e0) (hnil' : U = none → k = 0 ∧ e0 = 0) :
    Calls Try.prog 50 #[.slice A n c, .slice A' n' c', .agg #[.slice V m d, .slice U k e0]] w (UpPost w (.tuple #[.int .i64 (hbR ts ss vs us), .bool (viewOk ts ss vs us)])) := by
  have hl := Lib.hid h.1; have hl' := Lib.hid h'.1
  have hh := Lib.hid h; have hh' := Lib.hid h'; clear h h'
  have hvv := Lib.hid hv; have huu := Lib.hid hu; have hni := Lib.hid hnil; have hni' := Lib.hid hnil'; clear hv hu hnil hnil'
  have qv := Lib.hid (bx_row2 w (.slice V m d) (.slice U k e0) 63); have u := Lib.hid (bx_below w (.cells #[.slice V m d, .slice U k e0] 63))
  have qv_0 := row2_0 qv.out; have qv_1 := row2_1 qv.out
  cases hg : viewOk ts ss vs us
  · have hr := Lib.hid (show hbR ts ss vs us = 0 by unfold hbR; rw [if_neg (by rw [hg]; decide)])
    go_enter Try.func50, Try.ntmps50
    go_wp2_with (go_at_call 38; refine (specGoodView_any A n c ts A' n' c' ss V m d vs U k e0 us _ (hh.out.up u.out) (hh'.out.up' u.out) (hvv.out.up u.out) (huu.out.up u.out) hn hn' hm hk hc hni.out hd hni'.out).mono ?_; rintro e w1 ⟨rfl, b1⟩; rw [hg]; clear qv_0 qv_1; replace u := Lib.hid (u.out.trans (b1.mono u.out.size)); clear b1)
    go_ret2
    exact ⟨by rw [hr.out]; rfl, u.out⟩
  · have hr := Lib.hid (show hbR ts ss vs us = headPR ts ss us by unfold hbR; rw [if_pos hg])
    have hp := Lib.hid (view_f hg)
    go_enter Try.func50, Try.ntmps50
    go_wp2_with (first
      | (go_at_call 38; refine (specGoodView_any A n c ts A' n' c' ss V m d vs U k e0 us _ (hh.out.up u.out) (hh'.out.up' u.out) (hvv.out.up u.out) (huu.out.up u.out) hn hn' hm hk hc hni.out hd hni'.out).mono ?_; rintro e w1 ⟨rfl, b1⟩; rw [hg]; clear qv_0 qv_1; replace u := Lib.hid (u.out.trans (b1.mono u.out.size)); replace qv := Lib.hid (rowIs_below qv.out b1 qv.out.lt); clear b1; have qv_0 := row2_0 qv.out; have qv_1 := row2_1 qv.out; )
      | (go_at_call 89; refine (specHeadOf_any A n c ts A' n' c' ss U k e0 us _ (hh.out.up u.out) (hh'.out.up' u.out) (huu.out.up u.out) hn hn' hk).mono ?_; rw [hp.out]; rintro e w2 ⟨rfl, b1⟩; replace u := Lib.hid (u.out.trans (b1.mono u.out.size)); clear b1))
    go_ret2
    exact ⟨by rw [hr.out]; rfl, u.out⟩
end Go.Proofs.Ytlobjfipefibaaa
