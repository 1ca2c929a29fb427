/- What is proved here: boxes in a row; what the program's NewView, SeeVotes, FreezeView and MergeView return. No conditions but lengths, and a slice's room. -/
import Derived.Test.YtlobjfipefibaaaAreViews
import Derived.Test.YtlobjfipefibaaaMergeImpl
namespace Go.Proofs.Ytlobjfipefibaaa
open Go.RowKit Go.Maps Go.Sort Go.Shelf Go.Lib
def mdOK (ts : List Blk) (ss : List Int) (s f p : List Vt) : Bool := mrgOK ts ss s p && mrgOK ts ss f p
def mdS (ts : List Blk) (ss : List Int) (s f p : List Vt) : List Vt := if mdOK ts ss s f p = true then setV (s ++ p) else []
def mdF (ts : List Blk) (ss : List Int) (s f p : List Vt) : List Vt := if mdOK ts ss s f p = true then setV (f ++ p) else []
theorem mv_md {ts : List Blk} {ss : List Int} {s f : List Vt} (h : viewOk ts ss s f = true) (p : List Vt) : mdOK ts ss s f p = mvOK ts ss s f p ∧ mdS ts ss s f p = mvS ts ss s f p ∧ mdF ts ss s f p = mvF ts ss s f p := by
  have e : mdOK ts ss s f p = mvOK ts ss s f p := by unfold mdOK mvOK; rw [h]; rfl
  refine ⟨e, ?_, ?_⟩
  · unfold mdS mvS; rw [e]
  · unfold mdF mvF; rw [e]
theorem apart_nil : Apart none none := fun _ _ e _ => by cases e
theorem OwnV.setBox2 {w : World} {B n g : Nat} {A : Option Addr} {vs : List Vt} (h : OwnV w B A n vs) (hg : g < B) (x y : Value) : OwnV ((w.setCell ⟨g, 0, none⟩ x).setCell ⟨g, 1, none⟩ y) B A n vs :=
  (h.setBox hg x).keep (by simp) (fun ad e => Below.heap_setCell _ _ _ ad.block (by have := (h.low ad e).1; show ad.block ≠ g; omega))
theorem bxPR_rows (w : World) (a : Value) (t t' : TypeId) : ((w.alloc (.cells #[a] t)).alloc (.cells #[.slice none 0 0, .slice none 0 0] t')).rowIs w.heap.size t 1 (fun _ => a) ∧ ((w.alloc (.cells #[a] t)).alloc (.cells #[.slice none 0 0, .slice none 0 0] t')).rowIs (w.heap.size + 1) t' 2 (fn2 (.slice none 0 0) (.slice none 0 0)) ∧
    Below w.heap.size w ((w.alloc (.cells #[a] t)).alloc (.cells #[.slice none 0 0, .slice none 0 0] t')) ∧ ((w.alloc (.cells #[a] t)).alloc (.cells #[.slice none 0 0, .slice none 0 0] t')).heap.size = w.heap.size + 2 := by
  have r1 := bx_row w a t
  have b1 := bx_below w (.cells #[a] t)
  have r2 := bx_row2 (w.alloc (.cells #[a] t)) (.slice none 0 0) (.slice none 0 0) t'
  have b2 := bx_below (w.alloc (.cells #[a] t)) (.cells #[.slice none 0 0, .slice none 0 0] t')
  rw [show (w.alloc (.cells #[a] t)).heap.size = w.heap.size + 1 by simp] at r2
  exact ⟨rowIs_below r1 b2 r1.lt, r2, b1.trans (b2.mono b1.size), by simp⟩
theorem bxVR_rows (w : World) (a b : Value) (t t' : TypeId) : ((w.alloc (.cells #[a, b] t)).alloc (.cells #[.slice none 0 0, .slice none 0 0] t')).rowIs w.heap.size t 2 (fn2 a b) ∧ ((w.alloc (.cells #[a, b] t)).alloc (.cells #[.slice none 0 0, .slice none 0 0] t')).rowIs (w.heap.size + 1) t' 2 (fn2 (.slice none 0 0) (.slice none 0 0)) ∧
    Below w.heap.size w ((w.alloc (.cells #[a, b] t)).alloc (.cells #[.slice none 0 0, .slice none 0 0] t')) ∧ ((w.alloc (.cells #[a, b] t)).alloc (.cells #[.slice none 0 0, .slice none 0 0] t')).heap.size = w.heap.size + 2 := by
  have r1 := bx_row2 w a b t
  have b1 := bx_below w (.cells #[a, b] t)
  have r2 := bx_row2 (w.alloc (.cells #[a, b] t)) (.slice none 0 0) (.slice none 0 0) t'
  have b2 := bx_below (w.alloc (.cells #[a, b] t)) (.cells #[.slice none 0 0, .slice none 0 0] t')
  rw [show (w.alloc (.cells #[a, b] t)).heap.size = w.heap.size + 1 by simp] at r2
  exact ⟨rowIs_below r1 b2 r1.lt, r2, b1.trans (b2.mono b1.size), by simp⟩
theorem bxVPR_rows (w : World) (a b p : Value) (t t1 t2 : TypeId) : (((w.alloc (.cells #[a, b] t)).alloc (.cells #[p] t1)).alloc (.cells #[.slice none 0 0, .slice none 0 0] t2)).rowIs w.heap.size t 2 (fn2 a b) ∧ (((w.alloc (.cells #[a, b] t)).alloc (.cells #[p] t1)).alloc (.cells #[.slice none 0 0, .slice none 0 0] t2)).rowIs (w.heap.size + 1) t1 1 (fun _ => p) ∧
    (((w.alloc (.cells #[a, b] t)).alloc (.cells #[p] t1)).alloc (.cells #[.slice none 0 0, .slice none 0 0] t2)).rowIs (w.heap.size + 2) t2 2 (fn2 (.slice none 0 0) (.slice none 0 0)) ∧
    Below w.heap.size w (((w.alloc (.cells #[a, b] t)).alloc (.cells #[p] t1)).alloc (.cells #[.slice none 0 0, .slice none 0 0] t2)) ∧ (((w.alloc (.cells #[a, b] t)).alloc (.cells #[p] t1)).alloc (.cells #[.slice none 0 0, .slice none 0 0] t2)).heap.size = w.heap.size + 3 := by
  have r1 := bx_row2 w a b t
  have b1 := bx_below w (.cells #[a, b] t)
  have r2 := bx_row (w.alloc (.cells #[a, b] t)) p t1
  have b2 := bx_below (w.alloc (.cells #[a, b] t)) (.cells #[p] t1)
  have s1 : (w.alloc (.cells #[a, b] t)).heap.size = w.heap.size + 1 := by simp
  have s2 : ((w.alloc (.cells #[a, b] t)).alloc (.cells #[p] t1)).heap.size = w.heap.size + 2 := by simp
  have r3 := bx_row2 ((w.alloc (.cells #[a, b] t)).alloc (.cells #[p] t1)) (.slice none 0 0) (.slice none 0 0) t2
  have b3 := bx_below ((w.alloc (.cells #[a, b] t)).alloc (.cells #[p] t1)) (.cells #[.slice none 0 0, .slice none 0 0] t2)
  have q1 := rowIs_below (rowIs_below r1 b2 r1.lt) b3 (by rw [s2]; omega)
  have q2 := rowIs_below r2 b3 r2.lt
  rw [s1] at q2
  rw [s2] at r3
  exact ⟨q1, q2, r3, b1.trans ((b2.mono b1.size).trans (b3.mono (by rw [s2]; omega))), by simp⟩
theorem goodViewX_any (A : Option Addr) (n c : Nat) (ts : List Blk) (A' : Option Addr) (n' c' : Nat) (ss : List Int) (V : Option Addr) (m d : Nat) (vs : List Vt) (U : Option Addr) (k e0 : Nat) (us : List Vt) (w : World) (h : BlksAt w w.heap.size A n ts) (h' : IntsAt w w.heap.size A' n' ss) (hv : VotesAt w w.heap.size V m vs) (hu : VotesAt w w.heap.size U k us) (hn : n ≤ 1048576) (hn' : n' ≤ 1048576) (hm : m ≤ 1048576) (hk : k ≤ 1048576) (hc : m ≤ d) (hnil : V = none → m = 0 ∧ d = 0) (hd : k ≤ e0) (hnil' : U = none → k = 0 ∧ e0 = 0) :
    Calls Try.prog 40 #[.slice A n c, .slice A' n' c', .agg #[.slice V m d, .slice U k e0]] w (UpPost w (.bool (viewOk ts ss vs us))) :=
  goodView_any A n c ts A' n' c' ss V m d vs U k e0 us w h h' hv hu hn hn' hm hk hc hd hnil hnil'
set_option maxRecDepth 100000 in
set_option maxHeartbeats 1600000 in
theorem implNewView_any (A : Option Addr) (n c : Nat) (ts : List Blk) (A' : Option Addr) (n' c' : Nat) (ss : List Int) (Z : Option Addr) (z y : Nat) (zs : List Vt) (w : World) (h : BlksAt w w.heap.size A n ts) (h' : IntsAt w w.heap.size A' n' ss) (hz : VotesAt w w.heap.size Z z zs) (hn : n ≤ 1048576) (hn' : n' ≤ 1048576) (hzn : z ≤ 1048576) :
    Calls Try.prog 55 #[.slice A n c, .slice A' n' c', .agg #[.slice Z z y]] w (RetView w (poolOk ts ss zs) (nvR ts ss zs) (nvR ts ss zs)) := by
  have hl := Lib.hid h.1; have hl' := Lib.hid h'.1
  have hh := Lib.hid h; have hh' := Lib.hid h'; clear h h'
  have hzz := Lib.hid hz; clear hz
  obtain ⟨r1, r2, bW, sW⟩ := bxPR_rows w (.slice Z z y) 29 63
  have qp := Lib.hid r1; have qR := Lib.hid r2; have u := Lib.hid bW
  clear r1 r2 bW sW
  have qp_0 := qp.out.cell (i := 0) (by omega)
  cases hg : poolOk ts ss zs
  · have hr := Lib.hid (show nvR ts ss zs = [] by unfold nvR; rw [if_neg (by rw [hg]; decide)])
    go_enter Try.func55, Try.ntmps55
    go_wp2_with (go_at_call 81; refine (goodPool_any A n c ts A' n' c' ss Z z y zs _ (hh.out.up u.out) (hh'.out.up' u.out) (hzz.out.up u.out) hn hn' hzn).mono ?_; rintro e w1 ⟨rfl, b1⟩; rw [hg]; clear qp_0; replace u := Lib.hid (u.out.trans (b1.mono u.out.size)); replace qp := Lib.hid (rowIs_below qp.out b1 qp.out.lt); replace qR := Lib.hid (rowIs_below qR.out b1 qR.out.lt); clear b1; have qp_0 := qp.out.cell (i := 0) (by omega); have qR_0 := row2_0 qR.out; have qR_1 := row2_1 qR.out; have fR0 := qR.out.frozen 0; have fR1 := qR.out.frozen 1; )
    refine bodyPost_ret (results_row2 rfl _ _ (w.heap.size + 1) 63 #[.slice none 0 0, .slice none 0 0] (0, 0) _ rfl (pl_two (row2_set qR.out _ _)) Try.underlying63 rfl (by kernel_rfl)) rfl ?_
    exact ⟨none, 0, 0, none, 0, 0, rfl, by rw [hr.out]; exact OwnV.nil _ _, by rw [hr.out]; exact OwnV.nil _ _, apart_nil, (u.out.setCell (p := ⟨w.heap.size + 1, 0, none⟩) (by show w.heap.size ≤ w.heap.size + 1; omega) _).setCell (p := ⟨w.heap.size + 1, 1, none⟩) (by show w.heap.size ≤ w.heap.size + 1; omega) _⟩
  · have hr := Lib.hid (show nvR ts ss zs = zs by unfold nvR; rw [if_pos hg])
    go_enter Try.func55, Try.ntmps55
    go_upto_region 3 with (go_at_call 81; refine (goodPool_any A n c ts A' n' c' ss Z z y zs _ (hh.out.up u.out) (hh'.out.up' u.out) (hzz.out.up u.out) hn hn' hzn).mono ?_; rintro e w1 ⟨rfl, b1⟩; rw [hg]; clear qp_0; replace u := Lib.hid (u.out.trans (b1.mono u.out.size)); replace qp := Lib.hid (rowIs_below qp.out b1 qp.out.lt); replace qR := Lib.hid (rowIs_below qR.out b1 qR.out.lt); clear b1; have qp_0 := qp.out.cell (i := 0) (by omega); have qR_0 := row2_0 qR.out; have qR_1 := row2_1 qR.out; have fR0 := qR.out.frozen 0; have fR1 := qR.out.frozen 1; )
    have hT := Lib.hid (copyOf_any Z z y zs w1.drew (show VotesAt w1.drew w1.drew.heap.size Z z zs from ⟨(hzz.out.up u.out).1, (hzz.out.up u.out).2⟩) hzn)
    have lR := Lib.hid qR.out.lt
    have tk0 : True := trivial
    go_region_with (first
      | (clear tk0
         go_at_call 87
         refine hT.out.mono ?_
         rintro e wa ⟨Aa, na, ca, rfl, oa0, ba0⟩
         have ba : Below w1.heap.size w1 wa := ⟨ba0.os, ba0.tape, ba0.output, ba0.size, ba0.block⟩
         have oa := Lib.hid (show OwnV wa w1.heap.size Aa na zs from oa0)
         have ua := Lib.hid (u.out.trans (ba.mono u.out.size))
         have sa := Lib.hid ba.size
         have xp := Lib.hid (rowIs_below qp.out ba qp.out.lt)
         have xR := Lib.hid (rowIs_below qR.out ba qR.out.lt)
         have xp_0 := xp.out.cell (i := 0) (by omega)
         clear ba ba0 oa0
         have tk1 : True := trivial)
      | (clear tk1
         go_at_call 87
         refine (copyOf_any Z z y zs _ (hzz.out.up ua.out) hzn).mono ?_
         rintro e wb ⟨Ab, nb, cb, rfl, ob0, bb⟩
         have ob := Lib.hid ob0
         have oa2 := Lib.hid (oa.out.below bb)
         have ub := Lib.hid (ua.out.trans (bb.mono ua.out.size))
         have yR := Lib.hid (rowIs_below xR.out bb xR.out.lt)
         have yR_0 := row2_0 yR.out; have yR_1 := row2_1 yR.out
         have gR0 := yR.out.frozen 0; have gR1 := yR.out.frozen 1
         have hap := Lib.hid (show Apart Aa Ab from fun ad ad' e e' => by have a1 := (oa.out.low ad e).2; have a2 := (ob.out.low ad' e').1; omega)
         have hap' := Lib.hid (show Apart Ab Aa from fun ad ad' e e' => by have a1 := (oa.out.low ad' e').2; have a2 := (ob.out.low ad e).1; omega)
         clear bb ob0))
    all_goals
      go_wp2_with fail
      refine bodyPost_ret (results_row2 rfl _ _ (w.heap.size + 1) 63 _ (0, 0) _ rfl (pl_two (row2_set yR.out _ _)) Try.underlying63 rfl (by kernel_rfl)) rfl ?_
      have f1 := fun x y => (ub.out.setCell (p := ⟨w.heap.size + 1, 0, none⟩) (by show w.heap.size ≤ w.heap.size + 1; omega) x).setCell (p := ⟨w.heap.size + 1, 1, none⟩) (by show w.heap.size ≤ w.heap.size + 1; omega) y
      have ka := fun x y => (oa2.out.setBox2 (g := w.heap.size + 1) lR.out x y).fewer (show w.heap.size ≤ w1.heap.size by have := lR.out; omega)
      have kb := fun x y => (ob.out.setBox2 (g := w.heap.size + 1) (Nat.lt_of_lt_of_le lR.out sa.out) x y).fewer (show w.heap.size ≤ wa.heap.size by have := lR.out; have := sa.out; omega)
      first
        | exact ⟨Aa, na, ca, Ab, nb, cb, rfl, by rw [hr.out]; exact ka _ _, by rw [hr.out]; exact kb _ _, hap.out, f1 _ _⟩
        | exact ⟨Ab, nb, cb, Aa, na, ca, rfl, by rw [hr.out]; exact kb _ _, by rw [hr.out]; exact ka _ _, hap'.out, f1 _ _⟩
theorem implNewViewX_any (A : Option Addr) (n c : Nat) (ts : List Blk) (A' : Option Addr) (n' c' : Nat) (ss : List Int) (Z : Option Addr) (z y : Nat) (zs : List Vt) (w : World) (h : BlksAt w w.heap.size A n ts) (h' : IntsAt w w.heap.size A' n' ss) (hz : VotesAt w w.heap.size Z z zs) (hn : n ≤ 1048576) (hn' : n' ≤ 1048576) (hzn : z ≤ 1048576) (_hnz : Z = none → z = 0 ∧ y = 0) :
    Calls Try.prog 55 #[.slice A n c, .slice A' n' c', .agg #[.slice Z z y]] w (RetView w (poolOk ts ss zs) (nvR ts ss zs) (nvR ts ss zs)) :=
  implNewView_any A n c ts A' n' c' ss Z z y zs w h h' hz hn hn' hzn
set_option maxRecDepth 100000 in
set_option maxHeartbeats 1600000 in
theorem implSeeVotes_any (A : Option Addr) (n c : Nat) (ts : List Blk) (A' : Option Addr) (n' c' : Nat) (ss : List Int) (V : Option Addr) (m d : Nat) (vs : List Vt) (U : Option Addr) (k e0 : Nat) (us : List Vt) (Z : Option Addr) (z y : Nat) (zs : List Vt) (w : World) (h : BlksAt w w.heap.size A n ts) (h' : IntsAt w w.heap.size A' n' ss) (hv : VotesAt w w.heap.size V m vs) (hu : VotesAt w w.heap.size U k us) (hz : VotesAt w w.heap.size Z z zs) (hn : n ≤ 1048576) (hn' : n' ≤ 1048576) (hm : m ≤ 1048576) (hk : k ≤ 1048576) (hzn : z ≤ 1048576) (hc : m ≤ d) (hnil : V = none → m = 0 ∧ d = 0) (hd : k ≤ e0) (hnil' : U = none → k = 0 ∧ e0 = 0) (_hy : z ≤ y) (hnz : Z = none → z = 0 ∧ y = 0) :
    Calls Try.prog 43 #[.slice A n c, .slice A' n' c', .agg #[.slice V m d, .slice U k e0], .agg #[.slice Z z y]] w (RetView w (seeOK ts ss vs us zs) (seeS ts ss vs us zs) (seeF ts ss vs us zs)) := by
  have hl := Lib.hid h.1; have hl' := Lib.hid h'.1
  have hh := Lib.hid h; have hh' := Lib.hid h'; clear h h'
  have hvv := Lib.hid hv; have huu := Lib.hid hu; have hzz := Lib.hid hz; have hni := Lib.hid hnil; have hni' := Lib.hid hnil'; have hnz' := Lib.hid hnz; clear hv hu hz hnil hnil' hnz
  obtain ⟨r1, r2, r3, bW, sW⟩ := bxVPR_rows w (.slice V m d) (.slice U k e0) (.slice Z z y) 63 29 63
  have qv := Lib.hid r1; have qp := Lib.hid r2; have qR := Lib.hid r3; have u := Lib.hid bW
  clear r1 r2 r3 bW sW
  have qv_0 := row2_0 qv.out; have qv_1 := row2_1 qv.out; have qp_0 := qp.out.cell (i := 0) (by omega)
  cases hg : viewOk ts ss vs us
  · skip
    have hok := Lib.hid (show seeOK ts ss vs us zs = false by unfold seeOK; rw [hg]; rfl)
    have hr := Lib.hid (show seeS ts ss vs us zs = [] by unfold seeS; rw [if_neg (by rw [hok.out]; decide)])
    have hr2 := Lib.hid (show seeF ts ss vs us zs = [] by unfold seeF; rw [if_neg (by rw [hok.out]; decide)])
    go_enter Try.func43, Try.ntmps43
    go_wp2_with (go_at_call 40; refine (goodViewX_any A n c ts A' n' c' ss V m d vs U k e0 us _ (hh.out.up u.out) (hh'.out.up' u.out) (hvv.out.up u.out) (huu.out.up u.out) hn hn' hm hk hc hni.out hd hni'.out).mono ?_; rintro e w1 ⟨rfl, b1⟩; rw [hg]; clear qv_0 qv_1 qp_0; replace u := Lib.hid (u.out.trans (b1.mono u.out.size)); replace qv := Lib.hid (rowIs_below qv.out b1 qv.out.lt); replace qp := Lib.hid (rowIs_below qp.out b1 qp.out.lt); replace qR := Lib.hid (rowIs_below qR.out b1 qR.out.lt); clear b1; have qv_0 := row2_0 qv.out; have qv_1 := row2_1 qv.out; have qp_0 := qp.out.cell (i := 0) (by omega); have qR_0 := row2_0 qR.out; have qR_1 := row2_1 qR.out; have fR0 := qR.out.frozen 0; have fR1 := qR.out.frozen 1; )
    refine bodyPost_ret (results_row2 rfl _ _ (w.heap.size + 2) 63 #[.slice none 0 0, .slice none 0 0] (0, 0) _ rfl (pl_two (row2_set qR.out _ _)) Try.underlying63 rfl (by kernel_rfl)) rfl ?_
    exact ⟨none, 0, 0, none, 0, 0, by rw [hok.out]; rfl, by rw [hr.out]; exact OwnV.nil _ _, by rw [hr2.out]; exact OwnV.nil _ _, apart_nil, (u.out.setCell (p := ⟨w.heap.size + 2, 0, none⟩) (by show w.heap.size ≤ w.heap.size + 2; omega) _).setCell (p := ⟨w.heap.size + 2, 1, none⟩) (by show w.heap.size ≤ w.heap.size + 2; omega) _⟩
  · skip
    cases hg2 : mrgOK ts ss vs zs
    · skip
      have hok := Lib.hid (show seeOK ts ss vs us zs = false by unfold seeOK; rw [hg, hg2]; rfl)
      have hr := Lib.hid (show seeS ts ss vs us zs = [] by unfold seeS; rw [if_neg (by rw [hok.out]; decide)])
      have hr2 := Lib.hid (show seeF ts ss vs us zs = [] by unfold seeF; rw [if_neg (by rw [hok.out]; decide)])
      go_enter Try.func43, Try.ntmps43
      go_wp2_with (first
        | (go_at_call 40; refine (goodViewX_any A n c ts A' n' c' ss V m d vs U k e0 us _ (hh.out.up u.out) (hh'.out.up' u.out) (hvv.out.up u.out) (huu.out.up u.out) hn hn' hm hk hc hni.out hd hni'.out).mono ?_; rintro e w1 ⟨rfl, b1⟩; rw [hg]; clear qv_0 qv_1 qp_0; replace u := Lib.hid (u.out.trans (b1.mono u.out.size)); replace qv := Lib.hid (rowIs_below qv.out b1 qv.out.lt); replace qp := Lib.hid (rowIs_below qp.out b1 qp.out.lt); replace qR := Lib.hid (rowIs_below qR.out b1 qR.out.lt); clear b1; have qv_0 := row2_0 qv.out; have qv_1 := row2_1 qv.out; have qp_0 := qp.out.cell (i := 0) (by omega); have qR_0 := row2_0 qR.out; have qR_1 := row2_1 qR.out; )
        | (go_at_call 36; refine (implMergePools_any A n c ts A' n' c' ss V m d vs Z z y zs _ (hh.out.up u.out) (hh'.out.up' u.out) (hvv.out.up u.out) (hzz.out.up u.out) hn hn' hm hzn hc hni.out hnz'.out).mono ?_; rw [hg2]; rintro e w2 ⟨A2, n2, c2, rfl, o2, b0⟩; have b1 := b0.trans ((bx_below w2 (.cells #[.slice A2 n2 c2] 29)).mono b0.size); clear o2 b0; replace u := Lib.hid (u.out.trans (b1.mono u.out.size)); replace qv := Lib.hid (rowIs_below qv.out b1 qv.out.lt); replace qp := Lib.hid (rowIs_below qp.out b1 qp.out.lt); replace qR := Lib.hid (rowIs_below qR.out b1 qR.out.lt); clear b1 qv_0 qv_1 qp_0 qR_0 qR_1; have qv_0 := row2_0 qv.out; have qv_1 := row2_1 qv.out; have qp_0 := qp.out.cell (i := 0) (by omega); have qR_0 := row2_0 qR.out; have qR_1 := row2_1 qR.out; have fR0 := qR.out.frozen 0; have fR1 := qR.out.frozen 1; ))
      refine bodyPost_ret (results_row2 rfl _ _ (w.heap.size + 2) 63 #[.slice none 0 0, .slice none 0 0] (0, 0) _ rfl (pl_two (row2_set qR.out _ _)) Try.underlying63 rfl (by kernel_rfl)) rfl ?_
      exact ⟨none, 0, 0, none, 0, 0, by rw [hok.out]; rfl, by rw [hr.out]; exact OwnV.nil _ _, by rw [hr2.out]; exact OwnV.nil _ _, apart_nil, (u.out.setCell (p := ⟨w.heap.size + 2, 0, none⟩) (by show w.heap.size ≤ w.heap.size + 2; omega) _).setCell (p := ⟨w.heap.size + 2, 1, none⟩) (by show w.heap.size ≤ w.heap.size + 2; omega) _⟩
    · skip
      have hok := Lib.hid (show seeOK ts ss vs us zs = true by unfold seeOK; rw [hg, hg2]; rfl)
      have hr := Lib.hid (show seeS ts ss vs us zs = setV (vs ++ zs) by unfold seeS; rw [if_pos hok.out])
      have hr2 := Lib.hid (show seeF ts ss vs us zs = us by unfold seeF; rw [if_pos hok.out])
      have hmr := Lib.hid (show mrgR ts ss vs zs = setV (vs ++ zs) by unfold mrgR; rw [if_pos hg2])
      go_enter Try.func43, Try.ntmps43
      go_upto_region 6 with (first
        | (go_at_call 40; refine (goodViewX_any A n c ts A' n' c' ss V m d vs U k e0 us _ (hh.out.up u.out) (hh'.out.up' u.out) (hvv.out.up u.out) (huu.out.up u.out) hn hn' hm hk hc hni.out hd hni'.out).mono ?_; rintro e w1 ⟨rfl, b1⟩; rw [hg]; clear qv_0 qv_1 qp_0; replace u := Lib.hid (u.out.trans (b1.mono u.out.size)); replace qv := Lib.hid (rowIs_below qv.out b1 qv.out.lt); replace qp := Lib.hid (rowIs_below qp.out b1 qp.out.lt); replace qR := Lib.hid (rowIs_below qR.out b1 qR.out.lt); clear b1; have qv_0 := row2_0 qv.out; have qv_1 := row2_1 qv.out; have qp_0 := qp.out.cell (i := 0) (by omega); have qR_0 := row2_0 qR.out; have qR_1 := row2_1 qR.out; )
        | (go_at_call 36; refine (implMergePools_any A n c ts A' n' c' ss V m d vs Z z y zs _ (hh.out.up u.out) (hh'.out.up' u.out) (hvv.out.up u.out) (hzz.out.up u.out) hn hn' hm hzn hc hni.out hnz'.out).mono ?_; rw [hg2, hmr.out]; rintro e w2 ⟨A2, n2, c2, rfl, o2, b0⟩; have k0 := bx_below w2 (.cells #[.slice A2 n2 c2] 29); have s1 := Lib.hid (bx_row w2 (.slice A2 n2 c2) 29); have p2 := Lib.hid (o2.below k0); have lo2 := Lib.hid qR.out.lt; have b1 := b0.trans (k0.mono b0.size); clear o2 b0 k0; replace u := Lib.hid (u.out.trans (b1.mono u.out.size)); replace qv := Lib.hid (rowIs_below qv.out b1 qv.out.lt); replace qp := Lib.hid (rowIs_below qp.out b1 qp.out.lt); replace qR := Lib.hid (rowIs_below qR.out b1 qR.out.lt); clear b1 qv_0 qv_1 qp_0 qR_0 qR_1; have qv_0 := row2_0 qv.out; have qv_1 := row2_1 qv.out; have qp_0 := qp.out.cell (i := 0) (by omega); have qR_0 := row2_0 qR.out; have qR_1 := row2_1 qR.out; ))
      obtain ⟨X, hX⟩ : ∃ X, w2.alloc (.cells #[.slice A2 n2 c2] 29) = X := ⟨_, rfl⟩
      rw [hX] at s1 p2 u qv qp qR qv_0 qv_1 qp_0 qR_0 qR_1 ⊢
      clear hX
      have s1_0 := s1.out.cell (i := 0) (by omega)
      have hT := Lib.hid (copyOf_any U k e0 us X.drew (show VotesAt X.drew X.drew.heap.size U k us from ⟨(huu.out.up u.out).1, (huu.out.up u.out).2⟩) hk)
      have lR := Lib.hid qR.out.lt
      go_region_with (first
       | (go_at_call 87
          refine hT.out.mono ?_
          rintro e wa ⟨Aa, na, ca, rfl, oa0, ba0⟩
          have ba : Below X.heap.size X wa := ⟨ba0.os, ba0.tape, ba0.output, ba0.size, ba0.block⟩
          have oa := Lib.hid (show OwnV wa X.heap.size Aa na us from oa0)
          have ua := Lib.hid (u.out.trans (ba.mono u.out.size))
          have p3 := Lib.hid (p2.out.below ba)
          have t1 := Lib.hid (rowIs_below s1.out ba s1.out.lt)
          have xv := Lib.hid (rowIs_below qv.out ba qv.out.lt)
          have yR := Lib.hid (rowIs_below qR.out ba qR.out.lt)
          have t1_0 := t1.out.cell (i := 0) (by omega); have xv_1 := row2_1 xv.out
          have yR_0 := row2_0 yR.out; have yR_1 := row2_1 yR.out
          have gR0 := yR.out.frozen 0; have gR1 := yR.out.frozen 1
          have hap := Lib.hid (show Apart A2 Aa from fun ad ad' e e' => by have a1 := (p2.out.low ad e).2; have a2 := (oa.out.low ad' e').1; omega)
          clear ba ba0 oa0))
      all_goals
        go_wp2_with fail
        refine bodyPost_ret (results_row2 rfl _ _ (w.heap.size + 2) 63 #[.slice A2 n2 c2, .slice Aa na ca] (0, 0) _ rfl (pl_two (row2_set yR.out _ _)) Try.underlying63 rfl (by kernel_rfl)) rfl ?_
        exact ⟨A2, n2, c2, Aa, na, ca, by rw [hok.out]; rfl, by rw [hr.out]; exact (p3.out.setBox2 (g := w.heap.size + 2) lo2.out _ _).fewer (by have := lo2.out; omega), by rw [hr2.out]; exact (oa.out.setBox2 (g := w.heap.size + 2) lR.out _ _).fewer (by have := lR.out; omega), hap.out, (ua.out.setCell (p := ⟨w.heap.size + 2, 0, none⟩) (by show w.heap.size ≤ w.heap.size + 2; omega) _).setCell (p := ⟨w.heap.size + 2, 1, none⟩) (by show w.heap.size ≤ w.heap.size + 2; omega) _⟩
set_option maxRecDepth 100000 in
set_option maxHeartbeats 1600000 in
theorem implFreezeView_any (A : Option Addr) (n c : Nat) (ts : List Blk) (A' : Option Addr) (n' c' : Nat) (ss : List Int) (V : Option Addr) (m d : Nat) (vs : List Vt) (U : Option Addr) (k e0 : Nat) (us : List Vt) (w : World) (h : BlksAt w w.heap.size A n ts) (h' : IntsAt w w.heap.size A' n' ss) (hv : VotesAt w w.heap.size V m vs) (hu : VotesAt w w.heap.size U k us) (hn : n ≤ 1048576) (hn' : n' ≤ 1048576) (hm : m ≤ 1048576) (hk : k ≤ 1048576) (hc : m ≤ d) (hnil : V = none → m = 0 ∧ d = 0) (hd : k ≤ e0) (hnil' : U = none → k = 0 ∧ e0 = 0) :
    Calls Try.prog 47 #[.slice A n c, .slice A' n' c', .agg #[.slice V m d, .slice U k e0]] w (RetView w (viewOk ts ss vs us) (frzR ts ss vs us) (frzR ts ss vs us)) := by
  have hl := Lib.hid h.1; have hl' := Lib.hid h'.1
  have hh := Lib.hid h; have hh' := Lib.hid h'; clear h h'
  have hvv := Lib.hid hv; have huu := Lib.hid hu; have hni := Lib.hid hnil; have hni' := Lib.hid hnil'; clear hv hu hnil hnil'
  obtain ⟨r1, r2, bW, sW⟩ := bxVR_rows w (.slice V m d) (.slice U k e0) 63 63
  have qv := Lib.hid r1; have qR := Lib.hid r2; have u := Lib.hid bW
  clear r1 r2 bW sW
  have qv_0 := row2_0 qv.out; have qv_1 := row2_1 qv.out
  cases hg : viewOk ts ss vs us
  · have hr := Lib.hid (show frzR ts ss vs us = [] by unfold frzR; rw [if_neg (by rw [hg]; decide)])
    go_enter Try.func47, Try.ntmps47
    go_wp2_with (go_at_call 40; refine (goodViewX_any A n c ts A' n' c' ss V m d vs U k e0 us _ (hh.out.up u.out) (hh'.out.up' u.out) (hvv.out.up u.out) (huu.out.up u.out) hn hn' hm hk hc hni.out hd hni'.out).mono ?_; rintro e w1 ⟨rfl, b1⟩; rw [hg]; clear qv_0 qv_1; replace u := Lib.hid (u.out.trans (b1.mono u.out.size)); replace qv := Lib.hid (rowIs_below qv.out b1 qv.out.lt); replace qR := Lib.hid (rowIs_below qR.out b1 qR.out.lt); clear b1; have qv_0 := row2_0 qv.out; have qv_1 := row2_1 qv.out; have qR_0 := row2_0 qR.out; have qR_1 := row2_1 qR.out; have fR0 := qR.out.frozen 0; have fR1 := qR.out.frozen 1; )
    refine bodyPost_ret (results_row2 rfl _ _ (w.heap.size + 1) 63 #[.slice none 0 0, .slice none 0 0] (0, 0) _ rfl (pl_two (row2_set qR.out _ _)) Try.underlying63 rfl (by kernel_rfl)) rfl ?_
    exact ⟨none, 0, 0, none, 0, 0, rfl, by rw [hr.out]; exact OwnV.nil _ _, by rw [hr.out]; exact OwnV.nil _ _, apart_nil, (u.out.setCell (p := ⟨w.heap.size + 1, 0, none⟩) (by show w.heap.size ≤ w.heap.size + 1; omega) _).setCell (p := ⟨w.heap.size + 1, 1, none⟩) (by show w.heap.size ≤ w.heap.size + 1; omega) _⟩
  · have hr := Lib.hid (show frzR ts ss vs us = vs by unfold frzR; rw [if_pos hg])
    have hp := Lib.hid (view_s hg)
    have hnv := Lib.hid (show nvR ts ss vs = vs by unfold nvR; rw [if_pos hp.out])
    go_enter Try.func47, Try.ntmps47
    go_wp2_with (first
      | (go_at_call 40; refine (goodViewX_any A n c ts A' n' c' ss V m d vs U k e0 us _ (hh.out.up u.out) (hh'.out.up' u.out) (hvv.out.up u.out) (huu.out.up u.out) hn hn' hm hk hc hni.out hd hni'.out).mono ?_; rintro e w1 ⟨rfl, b1⟩; rw [hg]; clear qv_0 qv_1; have lo2 := Lib.hid (Nat.lt_of_lt_of_le qR.out.lt b1.size); replace u := Lib.hid (u.out.trans (b1.mono u.out.size)); replace qv := Lib.hid (rowIs_below qv.out b1 qv.out.lt); replace qR := Lib.hid (rowIs_below qR.out b1 qR.out.lt); clear b1; have qv_0 := row2_0 qv.out; have qv_1 := row2_1 qv.out; have qR_0 := row2_0 qR.out; have qR_1 := row2_1 qR.out; )
      | (go_at_call 55; refine (implNewView_any A n c ts A' n' c' ss V m d vs _ (hh.out.up u.out) (hh'.out.up' u.out) (hvv.out.up u.out) hn hn' hm).mono ?_; rw [hp.out, hnv.out]; rintro e w2 ⟨A2, n2, c2, A3, n3, c3, rfl, p2, p3, hap, b1⟩; have p2' := Lib.hid p2; have p3' := Lib.hid p3; have hap' := Lib.hid hap; clear p2 p3 hap; replace u := Lib.hid (u.out.trans (b1.mono u.out.size)); replace qv := Lib.hid (rowIs_below qv.out b1 qv.out.lt); replace qR := Lib.hid (rowIs_below qR.out b1 qR.out.lt); clear b1 qv_0 qv_1 qR_0 qR_1; have qv_0 := row2_0 qv.out; have qv_1 := row2_1 qv.out; have qR_0 := row2_0 qR.out; have qR_1 := row2_1 qR.out; have fR0 := qR.out.frozen 0; have fR1 := qR.out.frozen 1; ))
    refine bodyPost_ret (results_row2 rfl _ _ (w.heap.size + 1) 63 #[.slice A2 n2 c2, .slice A3 n3 c3] (0, 0) _ rfl (pl_two (row2_set qR.out _ _)) Try.underlying63 rfl (by kernel_rfl)) rfl ?_
    exact ⟨A2, n2, c2, A3, n3, c3, rfl, by rw [hr.out]; exact (p2'.out.setBox2 (g := w.heap.size + 1) lo2.out _ _).fewer (by have := lo2.out; omega), by rw [hr.out]; exact (p3'.out.setBox2 (g := w.heap.size + 1) lo2.out _ _).fewer (by have := lo2.out; omega), hap'.out, (u.out.setCell (p := ⟨w.heap.size + 1, 0, none⟩) (by show w.heap.size ≤ w.heap.size + 1; omega) _).setCell (p := ⟨w.heap.size + 1, 1, none⟩) (by show w.heap.size ≤ w.heap.size + 1; omega) _⟩
set_option maxRecDepth 100000 in
set_option maxHeartbeats 1600000 in
theorem mergedView_any (A : Option Addr) (n c : Nat) (ts : List Blk) (A' : Option Addr) (n' c' : Nat) (ss : List Int) (V : Option Addr) (m d : Nat) (vs : List Vt) (U : Option Addr) (k e0 : Nat) (us : List Vt) (Z : Option Addr) (z y : Nat) (zs : List Vt) (w : World) (h : BlksAt w w.heap.size A n ts) (h' : IntsAt w w.heap.size A' n' ss) (hv : VotesAt w w.heap.size V m vs) (hu : VotesAt w w.heap.size U k us) (hz : VotesAt w w.heap.size Z z zs) (hn : n ≤ 1048576) (hn' : n' ≤ 1048576) (hm : m ≤ 1048576) (hk : k ≤ 1048576) (hzn : z ≤ 1048576) (hc : m ≤ d) (hnil : V = none → m = 0 ∧ d = 0) (hd : k ≤ e0) (hnil' : U = none → k = 0 ∧ e0 = 0) (_hy : z ≤ y) (hnz : Z = none → z = 0 ∧ y = 0) :
    Calls Try.prog 88 #[.slice A n c, .slice A' n' c', .agg #[.slice V m d, .slice U k e0], .agg #[.slice Z z y]] w (RetView w (mdOK ts ss vs us zs) (mdS ts ss vs us zs) (mdF ts ss vs us zs)) := by
  have hl := Lib.hid h.1; have hl' := Lib.hid h'.1
  have hh := Lib.hid h; have hh' := Lib.hid h'; clear h h'
  have hvv := Lib.hid hv; have huu := Lib.hid hu; have hzz := Lib.hid hz; have hni := Lib.hid hnil; have hni' := Lib.hid hnil'; have hnz' := Lib.hid hnz; clear hv hu hz hnil hnil' hnz
  obtain ⟨r1, r2, r3, bW, sW⟩ := bxVPR_rows w (.slice V m d) (.slice U k e0) (.slice Z z y) 63 29 63
  have qv := Lib.hid r1; have qp := Lib.hid r2; have qR := Lib.hid r3; have u := Lib.hid bW
  clear r1 r2 r3 bW sW
  have qv_0 := row2_0 qv.out; have qv_1 := row2_1 qv.out; have qp_0 := qp.out.cell (i := 0) (by omega)
  cases hg2 : mrgOK ts ss vs zs
  · skip
    cases hg3 : mrgOK ts ss us zs
    · skip
      have hok := Lib.hid (show mdOK ts ss vs us zs = false by unfold mdOK; rw [hg2]; rfl)
      have hr := Lib.hid (show mdS ts ss vs us zs = [] by unfold mdS; rw [if_neg (by rw [hok.out]; decide)])
      have hr2 := Lib.hid (show mdF ts ss vs us zs = [] by unfold mdF; rw [if_neg (by rw [hok.out]; decide)])
      go_enter Try.func88, Try.ntmps88
      have tk0 : True := trivial
      go_wp2_with (first
        | (clear tk0; go_at_call 36; refine (implMergePools_any A n c ts A' n' c' ss V m d vs Z z y zs _ (hh.out.up u.out) (hh'.out.up' u.out) (hvv.out.up u.out) (hzz.out.up u.out) hn hn' hm hzn hc hni.out hnz'.out).mono ?_; rw [hg2]; rintro e w2 ⟨A2, n2, c2, rfl, o2, b0⟩; have b1 := b0.trans ((bx_below w2 (.cells #[.slice A2 n2 c2] 29)).mono b0.size); clear o2 b0; clear qv_0 qv_1 qp_0; replace u := Lib.hid (u.out.trans (b1.mono u.out.size)); replace qv := Lib.hid (rowIs_below qv.out b1 qv.out.lt); replace qp := Lib.hid (rowIs_below qp.out b1 qp.out.lt); replace qR := Lib.hid (rowIs_below qR.out b1 qR.out.lt); clear b1; have qv_0 := row2_0 qv.out; have qv_1 := row2_1 qv.out; have qp_0 := qp.out.cell (i := 0) (by omega); have qR_0 := row2_0 qR.out; have qR_1 := row2_1 qR.out; have tk1 : True := trivial)
        | (clear tk1; go_at_call 36; refine (implMergePools_any A n c ts A' n' c' ss U k e0 us Z z y zs _ (hh.out.up u.out) (hh'.out.up' u.out) (huu.out.up u.out) (hzz.out.up u.out) hn hn' hk hzn hd hni'.out hnz'.out).mono ?_; rw [hg3]; rintro e w3 ⟨A3, n3, c3, rfl, o3, b0⟩; have b1 := b0.trans ((bx_below w3 (.cells #[.slice A3 n3 c3] 29)).mono b0.size); clear o3 b0; replace u := Lib.hid (u.out.trans (b1.mono u.out.size)); replace qv := Lib.hid (rowIs_below qv.out b1 qv.out.lt); replace qp := Lib.hid (rowIs_below qp.out b1 qp.out.lt); replace qR := Lib.hid (rowIs_below qR.out b1 qR.out.lt); clear b1 qv_0 qv_1 qp_0 qR_0 qR_1; have qv_0 := row2_0 qv.out; have qv_1 := row2_1 qv.out; have qp_0 := qp.out.cell (i := 0) (by omega); have qR_0 := row2_0 qR.out; have qR_1 := row2_1 qR.out; have fR0 := qR.out.frozen 0; have fR1 := qR.out.frozen 1; ))
      refine bodyPost_ret (results_row2 rfl _ _ (w.heap.size + 2) 63 #[.slice none 0 0, .slice none 0 0] (0, 0) _ rfl (pl_two (row2_set qR.out _ _)) Try.underlying63 rfl (by kernel_rfl)) rfl ?_
      exact ⟨none, 0, 0, none, 0, 0, by rw [hok.out]; rfl, by rw [hr.out]; exact OwnV.nil _ _, by rw [hr2.out]; exact OwnV.nil _ _, apart_nil, (u.out.setCell (p := ⟨w.heap.size + 2, 0, none⟩) (by show w.heap.size ≤ w.heap.size + 2; omega) _).setCell (p := ⟨w.heap.size + 2, 1, none⟩) (by show w.heap.size ≤ w.heap.size + 2; omega) _⟩
    · skip
      have hok := Lib.hid (show mdOK ts ss vs us zs = false by unfold mdOK; rw [hg2]; rfl)
      have hr := Lib.hid (show mdS ts ss vs us zs = [] by unfold mdS; rw [if_neg (by rw [hok.out]; decide)])
      have hr2 := Lib.hid (show mdF ts ss vs us zs = [] by unfold mdF; rw [if_neg (by rw [hok.out]; decide)])
      go_enter Try.func88, Try.ntmps88
      have tk0 : True := trivial
      go_wp2_with (first
        | (clear tk0; go_at_call 36; refine (implMergePools_any A n c ts A' n' c' ss V m d vs Z z y zs _ (hh.out.up u.out) (hh'.out.up' u.out) (hvv.out.up u.out) (hzz.out.up u.out) hn hn' hm hzn hc hni.out hnz'.out).mono ?_; rw [hg2]; rintro e w2 ⟨A2, n2, c2, rfl, o2, b0⟩; have b1 := b0.trans ((bx_below w2 (.cells #[.slice A2 n2 c2] 29)).mono b0.size); clear o2 b0; clear qv_0 qv_1 qp_0; replace u := Lib.hid (u.out.trans (b1.mono u.out.size)); replace qv := Lib.hid (rowIs_below qv.out b1 qv.out.lt); replace qp := Lib.hid (rowIs_below qp.out b1 qp.out.lt); replace qR := Lib.hid (rowIs_below qR.out b1 qR.out.lt); clear b1; have qv_0 := row2_0 qv.out; have qv_1 := row2_1 qv.out; have qp_0 := qp.out.cell (i := 0) (by omega); have qR_0 := row2_0 qR.out; have qR_1 := row2_1 qR.out; have tk1 : True := trivial)
        | (clear tk1; go_at_call 36; refine (implMergePools_any A n c ts A' n' c' ss U k e0 us Z z y zs _ (hh.out.up u.out) (hh'.out.up' u.out) (huu.out.up u.out) (hzz.out.up u.out) hn hn' hk hzn hd hni'.out hnz'.out).mono ?_; rw [hg3]; rintro e w3 ⟨A3, n3, c3, rfl, o3, b0⟩; have b1 := b0.trans ((bx_below w3 (.cells #[.slice A3 n3 c3] 29)).mono b0.size); clear o3 b0; replace u := Lib.hid (u.out.trans (b1.mono u.out.size)); replace qv := Lib.hid (rowIs_below qv.out b1 qv.out.lt); replace qp := Lib.hid (rowIs_below qp.out b1 qp.out.lt); replace qR := Lib.hid (rowIs_below qR.out b1 qR.out.lt); clear b1 qv_0 qv_1 qp_0 qR_0 qR_1; have qv_0 := row2_0 qv.out; have qv_1 := row2_1 qv.out; have qp_0 := qp.out.cell (i := 0) (by omega); have qR_0 := row2_0 qR.out; have qR_1 := row2_1 qR.out; have fR0 := qR.out.frozen 0; have fR1 := qR.out.frozen 1; ))
      refine bodyPost_ret (results_row2 rfl _ _ (w.heap.size + 2) 63 #[.slice none 0 0, .slice none 0 0] (0, 0) _ rfl (pl_two (row2_set qR.out _ _)) Try.underlying63 rfl (by kernel_rfl)) rfl ?_
      exact ⟨none, 0, 0, none, 0, 0, by rw [hok.out]; rfl, by rw [hr.out]; exact OwnV.nil _ _, by rw [hr2.out]; exact OwnV.nil _ _, apart_nil, (u.out.setCell (p := ⟨w.heap.size + 2, 0, none⟩) (by show w.heap.size ≤ w.heap.size + 2; omega) _).setCell (p := ⟨w.heap.size + 2, 1, none⟩) (by show w.heap.size ≤ w.heap.size + 2; omega) _⟩
  · skip
    have hmr := Lib.hid (show mrgR ts ss vs zs = setV (vs ++ zs) by unfold mrgR; rw [if_pos hg2])
    cases hg3 : mrgOK ts ss us zs
    · skip
      have hok := Lib.hid (show mdOK ts ss vs us zs = false by unfold mdOK; rw [hg2, hg3]; rfl)
      have hr := Lib.hid (show mdS ts ss vs us zs = [] by unfold mdS; rw [if_neg (by rw [hok.out]; decide)])
      have hr2 := Lib.hid (show mdF ts ss vs us zs = [] by unfold mdF; rw [if_neg (by rw [hok.out]; decide)])
      go_enter Try.func88, Try.ntmps88
      have tk0 : True := trivial
      go_wp2_with (first
        | (clear tk0; go_at_call 36; refine (implMergePools_any A n c ts A' n' c' ss V m d vs Z z y zs _ (hh.out.up u.out) (hh'.out.up' u.out) (hvv.out.up u.out) (hzz.out.up u.out) hn hn' hm hzn hc hni.out hnz'.out).mono ?_; rw [hg2, hmr.out]; rintro e w2 ⟨A2, n2, c2, rfl, o2, b0⟩; have k0 := bx_below w2 (.cells #[.slice A2 n2 c2] 29); have s1 := Lib.hid (bx_row w2 (.slice A2 n2 c2) 29); have p2 := Lib.hid (o2.below k0); have lo2 := Lib.hid qR.out.lt; have b1 := b0.trans (k0.mono b0.size); clear o2 b0 k0; clear qv_0 qv_1 qp_0; replace u := Lib.hid (u.out.trans (b1.mono u.out.size)); replace qv := Lib.hid (rowIs_below qv.out b1 qv.out.lt); replace qp := Lib.hid (rowIs_below qp.out b1 qp.out.lt); replace qR := Lib.hid (rowIs_below qR.out b1 qR.out.lt); clear b1; have qv_0 := row2_0 qv.out; have qv_1 := row2_1 qv.out; have qp_0 := qp.out.cell (i := 0) (by omega); have qR_0 := row2_0 qR.out; have qR_1 := row2_1 qR.out; have tk1 : True := trivial)
        | (clear tk1; go_at_call 36; refine (implMergePools_any A n c ts A' n' c' ss U k e0 us Z z y zs _ (hh.out.up u.out) (hh'.out.up' u.out) (huu.out.up u.out) (hzz.out.up u.out) hn hn' hk hzn hd hni'.out hnz'.out).mono ?_; rw [hg3]; rintro e w3 ⟨A3, n3, c3, rfl, o3, b0⟩; have b1 := b0.trans ((bx_below w3 (.cells #[.slice A3 n3 c3] 29)).mono b0.size); clear o3 b0; replace u := Lib.hid (u.out.trans (b1.mono u.out.size)); replace qv := Lib.hid (rowIs_below qv.out b1 qv.out.lt); replace qp := Lib.hid (rowIs_below qp.out b1 qp.out.lt); replace qR := Lib.hid (rowIs_below qR.out b1 qR.out.lt); clear b1 qv_0 qv_1 qp_0 qR_0 qR_1; have qv_0 := row2_0 qv.out; have qv_1 := row2_1 qv.out; have qp_0 := qp.out.cell (i := 0) (by omega); have qR_0 := row2_0 qR.out; have qR_1 := row2_1 qR.out; have fR0 := qR.out.frozen 0; have fR1 := qR.out.frozen 1; ))
      refine bodyPost_ret (results_row2 rfl _ _ (w.heap.size + 2) 63 #[.slice none 0 0, .slice none 0 0] (0, 0) _ rfl (pl_two (row2_set qR.out _ _)) Try.underlying63 rfl (by kernel_rfl)) rfl ?_
      exact ⟨none, 0, 0, none, 0, 0, by rw [hok.out]; rfl, by rw [hr.out]; exact OwnV.nil _ _, by rw [hr2.out]; exact OwnV.nil _ _, apart_nil, (u.out.setCell (p := ⟨w.heap.size + 2, 0, none⟩) (by show w.heap.size ≤ w.heap.size + 2; omega) _).setCell (p := ⟨w.heap.size + 2, 1, none⟩) (by show w.heap.size ≤ w.heap.size + 2; omega) _⟩
    · skip
      have hok := Lib.hid (show mdOK ts ss vs us zs = true by unfold mdOK; rw [hg2, hg3]; rfl)
      have hr := Lib.hid (show mdS ts ss vs us zs = setV (vs ++ zs) by unfold mdS; rw [if_pos hok.out])
      have hr2 := Lib.hid (show mdF ts ss vs us zs = setV (us ++ zs) by unfold mdF; rw [if_pos hok.out])
      have hmr2 := Lib.hid (show mrgR ts ss us zs = setV (us ++ zs) by unfold mrgR; rw [if_pos hg3])
      go_enter Try.func88, Try.ntmps88
      have tk0 : True := trivial
      go_wp2_with (first
        | (clear tk0; go_at_call 36; refine (implMergePools_any A n c ts A' n' c' ss V m d vs Z z y zs _ (hh.out.up u.out) (hh'.out.up' u.out) (hvv.out.up u.out) (hzz.out.up u.out) hn hn' hm hzn hc hni.out hnz'.out).mono ?_; rw [hg2, hmr.out]; rintro e w2 ⟨A2, n2, c2, rfl, o2, b0⟩; have k0 := bx_below w2 (.cells #[.slice A2 n2 c2] 29); have s1 := Lib.hid (bx_row w2 (.slice A2 n2 c2) 29); have p2 := Lib.hid (o2.below k0); have lo2 := Lib.hid qR.out.lt; have b1 := b0.trans (k0.mono b0.size); clear o2 b0 k0; clear qv_0 qv_1 qp_0; replace u := Lib.hid (u.out.trans (b1.mono u.out.size)); replace qv := Lib.hid (rowIs_below qv.out b1 qv.out.lt); replace qp := Lib.hid (rowIs_below qp.out b1 qp.out.lt); replace qR := Lib.hid (rowIs_below qR.out b1 qR.out.lt); clear b1; have qv_0 := row2_0 qv.out; have qv_1 := row2_1 qv.out; have qp_0 := qp.out.cell (i := 0) (by omega); have qR_0 := row2_0 qR.out; have qR_1 := row2_1 qR.out; have tk1 : True := trivial)
        | (clear tk1; go_at_call 36; refine (implMergePools_any A n c ts A' n' c' ss U k e0 us Z z y zs _ (hh.out.up u.out) (hh'.out.up' u.out) (huu.out.up u.out) (hzz.out.up u.out) hn hn' hk hzn hd hni'.out hnz'.out).mono ?_; rw [hg3, hmr2.out]; rintro e w3 ⟨A3, n3, c3, rfl, o3, b0⟩; have k0 := bx_below w3 (.cells #[.slice A3 n3 c3] 29); have s2 := Lib.hid (bx_row w3 (.slice A3 n3 c3) 29); have p3 := Lib.hid (o3.below k0); have hap := Lib.hid (show Apart A2 A3 from fun ad ad' e e' => by have a1 := (p2.out.low ad e).2; have a2 := (o3.low ad' e').1; omega); have lo3 := Lib.hid qR.out.lt; have b1 := b0.trans (k0.mono b0.size); have p2' := Lib.hid (p2.out.below b1); replace s1 := Lib.hid (rowIs_below s1.out b1 s1.out.lt); clear o3 b0 k0; have s1_0 := s1.out.cell (i := 0) (by omega); have s2_0 := s2.out.cell (i := 0) (by omega); replace u := Lib.hid (u.out.trans (b1.mono u.out.size)); replace qv := Lib.hid (rowIs_below qv.out b1 qv.out.lt); replace qp := Lib.hid (rowIs_below qp.out b1 qp.out.lt); replace qR := Lib.hid (rowIs_below qR.out b1 qR.out.lt); clear b1 qv_0 qv_1 qp_0 qR_0 qR_1; have qv_0 := row2_0 qv.out; have qv_1 := row2_1 qv.out; have qp_0 := qp.out.cell (i := 0) (by omega); have qR_0 := row2_0 qR.out; have qR_1 := row2_1 qR.out; have fR0 := qR.out.frozen 0; have fR1 := qR.out.frozen 1; ))
      refine bodyPost_ret (results_row2 rfl _ _ (w.heap.size + 2) 63 #[.slice A2 n2 c2, .slice A3 n3 c3] (0, 0) _ rfl (pl_two (row2_set qR.out _ _)) Try.underlying63 rfl (by kernel_rfl)) rfl ?_
      exact ⟨A2, n2, c2, A3, n3, c3, by rw [hok.out]; rfl, by rw [hr.out]; exact (p2'.out.setBox2 (g := w.heap.size + 2) lo2.out _ _).fewer (by have := lo2.out; omega), by rw [hr2.out]; exact (p3.out.setBox2 (g := w.heap.size + 2) lo3.out _ _).fewer (by have := lo3.out; omega), hap.out, (u.out.setCell (p := ⟨w.heap.size + 2, 0, none⟩) (by show w.heap.size ≤ w.heap.size + 2; omega) _).setCell (p := ⟨w.heap.size + 2, 1, none⟩) (by show w.heap.size ≤ w.heap.size + 2; omega) _⟩
set_option maxRecDepth 100000 in
set_option maxHeartbeats 1600000 in
theorem implMergeView_any (A : Option Addr) (n c : Nat) (ts : List Blk) (A' : Option Addr) (n' c' : Nat) (ss : List Int) (V : Option Addr) (m d : Nat) (vs : List Vt) (U : Option Addr) (k e0 : Nat) (us : List Vt) (Z : Option Addr) (z y : Nat) (zs : List Vt) (w : World) (h : BlksAt w w.heap.size A n ts) (h' : IntsAt w w.heap.size A' n' ss) (hv : VotesAt w w.heap.size V m vs) (hu : VotesAt w w.heap.size U k us) (hz : VotesAt w w.heap.size Z z zs) (hn : n ≤ 1048576) (hn' : n' ≤ 1048576) (hm : m ≤ 1048576) (hk : k ≤ 1048576) (hzn : z ≤ 1048576) (hc : m ≤ d) (hnil : V = none → m = 0 ∧ d = 0) (hd : k ≤ e0) (hnil' : U = none → k = 0 ∧ e0 = 0) (_hy : z ≤ y) (hnz : Z = none → z = 0 ∧ y = 0) :
    Calls Try.prog 49 #[.slice A n c, .slice A' n' c', .agg #[.slice V m d, .slice U k e0], .agg #[.slice Z z y]] w (RetView w (mvOK ts ss vs us zs) (mvS ts ss vs us zs) (mvF ts ss vs us zs)) := by
  have hl := Lib.hid h.1; have hl' := Lib.hid h'.1
  have hh := Lib.hid h; have hh' := Lib.hid h'; clear h h'
  have hvv := Lib.hid hv; have huu := Lib.hid hu; have hzz := Lib.hid hz; have hni := Lib.hid hnil; have hni' := Lib.hid hnil'; have hnz' := Lib.hid hnz; clear hv hu hz hnil hnil' hnz
  obtain ⟨r1, r2, r3, bW, sW⟩ := bxVPR_rows w (.slice V m d) (.slice U k e0) (.slice Z z y) 63 29 63
  have qv := Lib.hid r1; have qp := Lib.hid r2; have qR := Lib.hid r3; have u := Lib.hid bW
  clear r1 r2 r3 bW sW
  have qv_0 := row2_0 qv.out; have qv_1 := row2_1 qv.out; have qp_0 := qp.out.cell (i := 0) (by omega)
  cases hg : viewOk ts ss vs us
  · skip
    have hok := Lib.hid (show mvOK ts ss vs us zs = false by unfold mvOK; rw [hg]; rfl)
    have hr := Lib.hid (show mvS ts ss vs us zs = [] by unfold mvS; rw [if_neg (by rw [hok.out]; decide)])
    have hr2 := Lib.hid (show mvF ts ss vs us zs = [] by unfold mvF; rw [if_neg (by rw [hok.out]; decide)])
    go_enter Try.func49, Try.ntmps49
    go_wp2_with (go_at_call 40; refine (goodViewX_any A n c ts A' n' c' ss V m d vs U k e0 us _ (hh.out.up u.out) (hh'.out.up' u.out) (hvv.out.up u.out) (huu.out.up u.out) hn hn' hm hk hc hni.out hd hni'.out).mono ?_; rintro e w1 ⟨rfl, b1⟩; rw [hg]; clear qv_0 qv_1 qp_0; replace u := Lib.hid (u.out.trans (b1.mono u.out.size)); replace qv := Lib.hid (rowIs_below qv.out b1 qv.out.lt); replace qp := Lib.hid (rowIs_below qp.out b1 qp.out.lt); replace qR := Lib.hid (rowIs_below qR.out b1 qR.out.lt); clear b1; have qv_0 := row2_0 qv.out; have qv_1 := row2_1 qv.out; have qp_0 := qp.out.cell (i := 0) (by omega); have qR_0 := row2_0 qR.out; have qR_1 := row2_1 qR.out; have fR0 := qR.out.frozen 0; have fR1 := qR.out.frozen 1; )
    refine bodyPost_ret (results_row2 rfl _ _ (w.heap.size + 2) 63 #[.slice none 0 0, .slice none 0 0] (0, 0) _ rfl (pl_two (row2_set qR.out _ _)) Try.underlying63 rfl (by kernel_rfl)) rfl ?_
    exact ⟨none, 0, 0, none, 0, 0, by rw [hok.out]; rfl, by rw [hr.out]; exact OwnV.nil _ _, by rw [hr2.out]; exact OwnV.nil _ _, apart_nil, (u.out.setCell (p := ⟨w.heap.size + 2, 0, none⟩) (by show w.heap.size ≤ w.heap.size + 2; omega) _).setCell (p := ⟨w.heap.size + 2, 1, none⟩) (by show w.heap.size ≤ w.heap.size + 2; omega) _⟩
  · have hmd := mv_md hg zs
    obtain ⟨e1, e2, e3⟩ := hmd
    have k1 := Lib.hid e1; have k2 := Lib.hid e2; have k3 := Lib.hid e3; clear e1 e2 e3
    go_enter Try.func49, Try.ntmps49
    go_wp2_with (first
      | (go_at_call 40; refine (goodViewX_any A n c ts A' n' c' ss V m d vs U k e0 us _ (hh.out.up u.out) (hh'.out.up' u.out) (hvv.out.up u.out) (huu.out.up u.out) hn hn' hm hk hc hni.out hd hni'.out).mono ?_; rintro e w1 ⟨rfl, b1⟩; rw [hg]; clear qv_0 qv_1 qp_0; have lo2 := Lib.hid (Nat.lt_of_lt_of_le qR.out.lt b1.size); replace u := Lib.hid (u.out.trans (b1.mono u.out.size)); replace qv := Lib.hid (rowIs_below qv.out b1 qv.out.lt); replace qp := Lib.hid (rowIs_below qp.out b1 qp.out.lt); replace qR := Lib.hid (rowIs_below qR.out b1 qR.out.lt); clear b1; have qv_0 := row2_0 qv.out; have qv_1 := row2_1 qv.out; have qp_0 := qp.out.cell (i := 0) (by omega); have qR_0 := row2_0 qR.out; have qR_1 := row2_1 qR.out; )
      | (go_at_call 88; refine (mergedView_any A n c ts A' n' c' ss V m d vs U k e0 us Z z y zs _ (hh.out.up u.out) (hh'.out.up' u.out) (hvv.out.up u.out) (huu.out.up u.out) (hzz.out.up u.out) hn hn' hm hk hzn hc hni.out hd hni'.out _hy hnz'.out).mono ?_; rw [k1.out, k2.out, k3.out]; rintro e w2 ⟨A2, n2, c2, A3, n3, c3, rfl, p2, p3, hap, b1⟩; have p2' := Lib.hid p2; have p3' := Lib.hid p3; have hap' := Lib.hid hap; clear p2 p3 hap; replace u := Lib.hid (u.out.trans (b1.mono u.out.size)); replace qv := Lib.hid (rowIs_below qv.out b1 qv.out.lt); replace qp := Lib.hid (rowIs_below qp.out b1 qp.out.lt); replace qR := Lib.hid (rowIs_below qR.out b1 qR.out.lt); clear b1 qv_0 qv_1 qp_0 qR_0 qR_1; have qv_0 := row2_0 qv.out; have qv_1 := row2_1 qv.out; have qp_0 := qp.out.cell (i := 0) (by omega); have qR_0 := row2_0 qR.out; have qR_1 := row2_1 qR.out; have fR0 := qR.out.frozen 0; have fR1 := qR.out.frozen 1; ))
    refine bodyPost_ret (results_row2 rfl _ _ (w.heap.size + 2) 63 #[.slice A2 n2 c2, .slice A3 n3 c3] (0, 0) _ rfl (pl_two (row2_set qR.out _ _)) Try.underlying63 rfl (by kernel_rfl)) rfl ?_
    exact ⟨A2, n2, c2, A3, n3, c3, rfl, (p2'.out.setBox2 (g := w.heap.size + 2) lo2.out _ _).fewer (by have := lo2.out; omega), (p3'.out.setBox2 (g := w.heap.size + 2) lo2.out _ _).fewer (by have := lo2.out; omega), hap'.out, (u.out.setCell (p := ⟨w.heap.size + 2, 0, none⟩) (by show w.heap.size ≤ w.heap.size + 2; omega) _).setCell (p := ⟨w.heap.size + 2, 1, none⟩) (by show w.heap.size ≤ w.heap.size + 2; omega) _⟩
end Go.Proofs.Ytlobjfipefibaaa
