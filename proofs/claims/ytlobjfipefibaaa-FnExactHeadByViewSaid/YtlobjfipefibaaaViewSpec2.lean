/- What is proved here: what the model's NewView, SeeVotes, FreezeView and MergeView return. No conditions but lengths, and a slice's room. -/
import Derived.Test.YtlobjfipefibaaaViewSpec
import Derived.Test.YtlobjfipefibaaaViewFns
namespace Go.Proofs.Ytlobjfipefibaaa
open Go.RowKit Go.Maps Go.Sort Go.Shelf Go.Lib
set_option maxRecDepth 100000 in
set_option maxHeartbeats 1600000 in
theorem specNewView_any (A : Option Addr) (n c : Nat) (ts : List Blk) (A' : Option Addr) (n' c' : Nat) (ss : List Int) (Z : Option Addr) (z y : Nat) (zs : List Vt) (w : World) (h : BlksAt w w.heap.size A n ts) (h' : IntsAt w w.heap.size A' n' ss) (hz : VotesAt w w.heap.size Z z zs) (hn : n ≤ 1048576) (hn' : n' ≤ 1048576) (hzn : z ≤ 1048576) (hnz : Z = none → z = 0 ∧ y = 0) :
    Calls Try.prog 54 #[.slice A n c, .slice A' n' c', .agg #[.slice Z z y]] w (RetView w (poolOk ts ss zs) (nvR ts ss zs) (nvR ts ss zs)) := by
  have hl := Lib.hid h.1; have hl' := Lib.hid h'.1
  have hh := Lib.hid h; have hh' := Lib.hid h'; clear h h'
  have hzz := Lib.hid hz; clear hz
  have hnz' := Lib.hid hnz; clear hnz
  obtain ⟨r1, r2, bW, sW⟩ := bxPR_rows w (.slice Z z y) 29 63
  have qp := Lib.hid r1; have qR := Lib.hid r2; have u := Lib.hid bW
  clear r1 r2 bW sW
  have qp_0 := qp.out.cell (i := 0) (by omega)
  cases hg : poolOk ts ss zs
  · have hr := Lib.hid (show nvR ts ss zs = [] by unfold nvR; rw [if_neg (by rw [hg]; decide)])
    go_enter Try.func54, Try.ntmps54
    go_wp2_with (go_at_call 78; refine (specGoodPool_any A n c ts A' n' c' ss Z z y zs _ (hh.out.up u.out) (hh'.out.up' u.out) (hzz.out.up u.out) hn hn' hzn).mono ?_; rintro e w1 ⟨rfl, b1⟩; rw [hg]; clear qp_0; replace u := Lib.hid (u.out.trans (b1.mono u.out.size)); replace qp := Lib.hid (rowIs_below qp.out b1 qp.out.lt); replace qR := Lib.hid (rowIs_below qR.out b1 qR.out.lt); clear b1; have qp_0 := qp.out.cell (i := 0) (by omega); have qR_0 := row2_0 qR.out; have qR_1 := row2_1 qR.out; have fR0 := qR.out.frozen 0; have fR1 := qR.out.frozen 1; )
    refine bodyPost_ret (results_row2 rfl _ _ (w.heap.size + 1) 63 #[.slice none 0 0, .slice none 0 0] (0, 0) _ rfl (pl_two (row2_set qR.out _ _)) Try.underlying63 rfl (by kernel_rfl)) rfl ?_
    exact ⟨none, 0, 0, none, 0, 0, rfl, by rw [hr.out]; exact OwnV.nil _ _, by rw [hr.out]; exact OwnV.nil _ _, apart_nil, (u.out.setCell (p := ⟨w.heap.size + 1, 0, none⟩) (by show w.heap.size ≤ w.heap.size + 1; omega) _).setCell (p := ⟨w.heap.size + 1, 1, none⟩) (by show w.heap.size ≤ w.heap.size + 1; omega) _⟩
  · have hr := Lib.hid (show nvR ts ss zs = zs by unfold nvR; rw [if_pos hg])
    go_enter Try.func54, Try.ntmps54
    go_upto_region 3 with (go_at_call 78; refine (specGoodPool_any A n c ts A' n' c' ss Z z y zs _ (hh.out.up u.out) (hh'.out.up' u.out) (hzz.out.up u.out) hn hn' hzn).mono ?_; rintro e w1 ⟨rfl, b1⟩; rw [hg]; clear qp_0; replace u := Lib.hid (u.out.trans (b1.mono u.out.size)); replace qp := Lib.hid (rowIs_below qp.out b1 qp.out.lt); replace qR := Lib.hid (rowIs_below qR.out b1 qR.out.lt); clear b1; have qp_0 := qp.out.cell (i := 0) (by omega); have qR_0 := row2_0 qR.out; have qR_1 := row2_1 qR.out; have fR0 := qR.out.frozen 0; have fR1 := qR.out.frozen 1; )
    have hT := Lib.hid (l9Own_any Z z y zs w1.drew (show VotesAt w1.drew w1.drew.heap.size Z z zs from ⟨(hzz.out.up u.out).1, (hzz.out.up u.out).2⟩) hzn hnz'.out)
    have lR := Lib.hid qR.out.lt
    have tk0 : True := trivial
    go_region_with (first
      | (clear tk0
         go_at_call 86
         refine hT.out.mono ?_
         rintro e wa ⟨Aa, na, ca, rfl, oa0, ba0⟩
         have ba : Below w1.heap.size w1 wa := ⟨ba0.os, ba0.tape, ba0.output, ba0.size, ba0.block⟩
         have oa := Lib.hid (show OwnV wa w1.heap.size Aa na zs from oa0)
         have ua := Lib.hid (u.out.trans (ba.mono u.out.size))
         have sa := Lib.hid ba.size
         have xp := Lib.hid (rowIs_below qp.out ba qp.out.lt)
         have xR := Lib.hid (rowIs_below qR.out ba qR.out.lt)
         have xp_0 := xp.out.cell (i := 0) (by omega)
         clear ba ba0 oa0
         have tk1 : True := trivial)
      | (clear tk1
         go_at_call 86
         refine (l9Own_any Z z y zs _ (hzz.out.up ua.out) hzn hnz'.out).mono ?_
         rintro e wb ⟨Ab, nb, cb, rfl, ob0, bb⟩
         have ob := Lib.hid ob0
         have oa2 := Lib.hid (oa.out.below bb)
         have ub := Lib.hid (ua.out.trans (bb.mono ua.out.size))
         have yR := Lib.hid (rowIs_below xR.out bb xR.out.lt)
         have yR_0 := row2_0 yR.out; have yR_1 := row2_1 yR.out
         have gR0 := yR.out.frozen 0; have gR1 := yR.out.frozen 1
         have hap := Lib.hid (show Apart Aa Ab from fun ad ad' e e' => by have a1 := (oa.out.low ad e).2; have a2 := (ob.out.low ad' e').1; omega)
         have hap' := Lib.hid (show Apart Ab Aa from fun ad ad' e e' => by have a1 := (oa.out.low ad' e').2; have a2 := (ob.out.low ad e).1; omega)
         clear bb ob0))
    all_goals
      go_wp2_with fail
      refine bodyPost_ret (results_row2 rfl _ _ (w.heap.size + 1) 63 _ (0, 0) _ rfl (pl_two (row2_set yR.out _ _)) Try.underlying63 rfl (by kernel_rfl)) rfl ?_
      have f1 := fun x y => (ub.out.setCell (p := ⟨w.heap.size + 1, 0, none⟩) (by show w.heap.size ≤ w.heap.size + 1; omega) x).setCell (p := ⟨w.heap.size + 1, 1, none⟩) (by show w.heap.size ≤ w.heap.size + 1; omega) y
      have ka := fun x y => (oa2.out.setBox2 (g := w.heap.size + 1) lR.out x y).fewer (show w.heap.size ≤ w1.heap.size by have := lR.out; omega)
      have kb := fun x y => (ob.out.setBox2 (g := w.heap.size + 1) (Nat.lt_of_lt_of_le lR.out sa.out) x y).fewer (show w.heap.size ≤ wa.heap.size by have := lR.out; have := sa.out; omega)
      first
        | exact ⟨Aa, na, ca, Ab, nb, cb, rfl, by rw [hr.out]; exact ka _ _, by rw [hr.out]; exact kb _ _, hap.out, f1 _ _⟩
        | exact ⟨Ab, nb, cb, Aa, na, ca, rfl, by rw [hr.out]; exact kb _ _, by rw [hr.out]; exact ka _ _, hap'.out, f1 _ _⟩
set_option maxRecDepth 100000 in
set_option maxHeartbeats 1600000 in
theorem specSeeVotes_any (A : Option Addr) (n c : Nat) (ts : List Blk) (A' : Option Addr) (n' c' : Nat) (ss : List Int) (V : Option Addr) (m d : Nat) (vs : List Vt) (U : Option Addr) (k e0 : Nat) (us : List Vt) (Z : Option Addr) (z y : Nat) (zs : List Vt) (w : World) (h : BlksAt w w.heap.size A n ts) (h' : IntsAt w w.heap.size A' n' ss) (hv : VotesAt w w.heap.size V m vs) (hu : VotesAt w w.heap.size U k us) (hz : VotesAt w w.heap.size Z z zs) (hn : n ≤ 1048576) (hn' : n' ≤ 1048576) (hm : m ≤ 1048576) (hk : k ≤ 1048576) (hzn : z ≤ 1048576) (hc : m ≤ d) (hnil : V = none → m = 0 ∧ d = 0) (hd : k ≤ e0) (hnil' : U = none → k = 0 ∧ e0 = 0) (_hy : z ≤ y) (hnz : Z = none → z = 0 ∧ y = 0) :
    Calls Try.prog 42 #[.slice A n c, .slice A' n' c', .agg #[.slice V m d, .slice U k e0], .agg #[.slice Z z y]] w (RetView w (seeOK ts ss vs us zs) (seeS ts ss vs us zs) (seeF ts ss vs us zs)) := by
  have hl := Lib.hid h.1; have hl' := Lib.hid h'.1
  have hh := Lib.hid h; have hh' := Lib.hid h'; clear h h'
  have hvv := Lib.hid hv; have huu := Lib.hid hu; have hzz := Lib.hid hz; have hni := Lib.hid hnil; have hni' := Lib.hid hnil'; have hnz' := Lib.hid hnz; clear hv hu hz hnil hnil' hnz
  obtain ⟨r1, r2, r3, bW, sW⟩ := bxVPR_rows w (.slice V m d) (.slice U k e0) (.slice Z z y) 63 29 63
  have qv := Lib.hid r1; have qp := Lib.hid r2; have qR := Lib.hid r3; have u := Lib.hid bW
  clear r1 r2 r3 bW sW
  have qv_0 := row2_0 qv.out; have qv_1 := row2_1 qv.out; have qp_0 := qp.out.cell (i := 0) (by omega)
  cases hg : viewOk ts ss vs us
  · skip
    have hok := Lib.hid (show seeOK ts ss vs us zs = false by unfold seeOK; rw [hg]; rfl)
    have hr := Lib.hid (show seeS ts ss vs us zs = [] by unfold seeS; rw [if_neg (by rw [hok.out]; decide)])
    have hr2 := Lib.hid (show seeF ts ss vs us zs = [] by unfold seeF; rw [if_neg (by rw [hok.out]; decide)])
    go_enter Try.func42, Try.ntmps42
    go_wp2_with (go_at_call 38; refine (specGoodView_any A n c ts A' n' c' ss V m d vs U k e0 us _ (hh.out.up u.out) (hh'.out.up' u.out) (hvv.out.up u.out) (huu.out.up u.out) hn hn' hm hk hc hni.out hd hni'.out).mono ?_; rintro e w1 ⟨rfl, b1⟩; rw [hg]; clear qv_0 qv_1 qp_0; replace u := Lib.hid (u.out.trans (b1.mono u.out.size)); replace qv := Lib.hid (rowIs_below qv.out b1 qv.out.lt); replace qp := Lib.hid (rowIs_below qp.out b1 qp.out.lt); replace qR := Lib.hid (rowIs_below qR.out b1 qR.out.lt); clear b1; have qv_0 := row2_0 qv.out; have qv_1 := row2_1 qv.out; have qp_0 := qp.out.cell (i := 0) (by omega); have qR_0 := row2_0 qR.out; have qR_1 := row2_1 qR.out; have fR0 := qR.out.frozen 0; have fR1 := qR.out.frozen 1; )
    refine bodyPost_ret (results_row2 rfl _ _ (w.heap.size + 2) 63 #[.slice none 0 0, .slice none 0 0] (0, 0) _ rfl (pl_two (row2_set qR.out _ _)) Try.underlying63 rfl (by kernel_rfl)) rfl ?_
    exact ⟨none, 0, 0, none, 0, 0, by rw [hok.out]; rfl, by rw [hr.out]; exact OwnV.nil _ _, by rw [hr2.out]; exact OwnV.nil _ _, apart_nil, (u.out.setCell (p := ⟨w.heap.size + 2, 0, none⟩) (by show w.heap.size ≤ w.heap.size + 2; omega) _).setCell (p := ⟨w.heap.size + 2, 1, none⟩) (by show w.heap.size ≤ w.heap.size + 2; omega) _⟩
  · skip
    cases hg2 : mrgOK ts ss vs zs
    · skip
      have hok := Lib.hid (show seeOK ts ss vs us zs = false by unfold seeOK; rw [hg, hg2]; rfl)
      have hr := Lib.hid (show seeS ts ss vs us zs = [] by unfold seeS; rw [if_neg (by rw [hok.out]; decide)])
      have hr2 := Lib.hid (show seeF ts ss vs us zs = [] by unfold seeF; rw [if_neg (by rw [hok.out]; decide)])
      go_enter Try.func42, Try.ntmps42
      go_wp2_with (first
        | (go_at_call 38; refine (specGoodView_any A n c ts A' n' c' ss V m d vs U k e0 us _ (hh.out.up u.out) (hh'.out.up' u.out) (hvv.out.up u.out) (huu.out.up u.out) hn hn' hm hk hc hni.out hd hni'.out).mono ?_; rintro e w1 ⟨rfl, b1⟩; rw [hg]; clear qv_0 qv_1 qp_0; replace u := Lib.hid (u.out.trans (b1.mono u.out.size)); replace qv := Lib.hid (rowIs_below qv.out b1 qv.out.lt); replace qp := Lib.hid (rowIs_below qp.out b1 qp.out.lt); replace qR := Lib.hid (rowIs_below qR.out b1 qR.out.lt); clear b1; have qv_0 := row2_0 qv.out; have qv_1 := row2_1 qv.out; have qp_0 := qp.out.cell (i := 0) (by omega); have qR_0 := row2_0 qR.out; have qR_1 := row2_1 qR.out; )
        | (go_at_call 35; refine (specMergePoolsX_any A n c ts A' n' c' ss V m d vs Z z y zs _ (hh.out.up u.out) (hh'.out.up' u.out) (hvv.out.up u.out) (hzz.out.up u.out) hn hn' hm hzn hc hni.out hnz'.out).mono ?_; rw [hg2]; rintro e w2 ⟨A2, n2, c2, rfl, o2, b0⟩; have b1 := b0.trans ((bx_below w2 (.cells #[.slice A2 n2 c2] 29)).mono b0.size); clear o2 b0; replace u := Lib.hid (u.out.trans (b1.mono u.out.size)); replace qv := Lib.hid (rowIs_below qv.out b1 qv.out.lt); replace qp := Lib.hid (rowIs_below qp.out b1 qp.out.lt); replace qR := Lib.hid (rowIs_below qR.out b1 qR.out.lt); clear b1 qv_0 qv_1 qp_0 qR_0 qR_1; have qv_0 := row2_0 qv.out; have qv_1 := row2_1 qv.out; have qp_0 := qp.out.cell (i := 0) (by omega); have qR_0 := row2_0 qR.out; have qR_1 := row2_1 qR.out; have fR0 := qR.out.frozen 0; have fR1 := qR.out.frozen 1; ))
      refine bodyPost_ret (results_row2 rfl _ _ (w.heap.size + 2) 63 #[.slice none 0 0, .slice none 0 0] (0, 0) _ rfl (pl_two (row2_set qR.out _ _)) Try.underlying63 rfl (by kernel_rfl)) rfl ?_
      exact ⟨none, 0, 0, none, 0, 0, by rw [hok.out]; rfl, by rw [hr.out]; exact OwnV.nil _ _, by rw [hr2.out]; exact OwnV.nil _ _, apart_nil, (u.out.setCell (p := ⟨w.heap.size + 2, 0, none⟩) (by show w.heap.size ≤ w.heap.size + 2; omega) _).setCell (p := ⟨w.heap.size + 2, 1, none⟩) (by show w.heap.size ≤ w.heap.size + 2; omega) _⟩
    · skip
      have hok := Lib.hid (show seeOK ts ss vs us zs = true by unfold seeOK; rw [hg, hg2]; rfl)
      have hr := Lib.hid (show seeS ts ss vs us zs = setV (vs ++ zs) by unfold seeS; rw [if_pos hok.out])
      have hr2 := Lib.hid (show seeF ts ss vs us zs = us by unfold seeF; rw [if_pos hok.out])
      have hmr := Lib.hid (show mrgR ts ss vs zs = setV (vs ++ zs) by unfold mrgR; rw [if_pos hg2])
      go_enter Try.func42, Try.ntmps42
      go_upto_region 6 with (first
        | (go_at_call 38; refine (specGoodView_any A n c ts A' n' c' ss V m d vs U k e0 us _ (hh.out.up u.out) (hh'.out.up' u.out) (hvv.out.up u.out) (huu.out.up u.out) hn hn' hm hk hc hni.out hd hni'.out).mono ?_; rintro e w1 ⟨rfl, b1⟩; rw [hg]; clear qv_0 qv_1 qp_0; replace u := Lib.hid (u.out.trans (b1.mono u.out.size)); replace qv := Lib.hid (rowIs_below qv.out b1 qv.out.lt); replace qp := Lib.hid (rowIs_below qp.out b1 qp.out.lt); replace qR := Lib.hid (rowIs_below qR.out b1 qR.out.lt); clear b1; have qv_0 := row2_0 qv.out; have qv_1 := row2_1 qv.out; have qp_0 := qp.out.cell (i := 0) (by omega); have qR_0 := row2_0 qR.out; have qR_1 := row2_1 qR.out; )
        | (go_at_call 35; refine (specMergePoolsX_any A n c ts A' n' c' ss V m d vs Z z y zs _ (hh.out.up u.out) (hh'.out.up' u.out) (hvv.out.up u.out) (hzz.out.up u.out) hn hn' hm hzn hc hni.out hnz'.out).mono ?_; rw [hg2, hmr.out]; rintro e w2 ⟨A2, n2, c2, rfl, o2, b0⟩; have k0 := bx_below w2 (.cells #[.slice A2 n2 c2] 29); have s1 := Lib.hid (bx_row w2 (.slice A2 n2 c2) 29); have p2 := Lib.hid (o2.below k0); have lo2 := Lib.hid qR.out.lt; have b1 := b0.trans (k0.mono b0.size); clear o2 b0 k0; replace u := Lib.hid (u.out.trans (b1.mono u.out.size)); replace qv := Lib.hid (rowIs_below qv.out b1 qv.out.lt); replace qp := Lib.hid (rowIs_below qp.out b1 qp.out.lt); replace qR := Lib.hid (rowIs_below qR.out b1 qR.out.lt); clear b1 qv_0 qv_1 qp_0 qR_0 qR_1; have qv_0 := row2_0 qv.out; have qv_1 := row2_1 qv.out; have qp_0 := qp.out.cell (i := 0) (by omega); have qR_0 := row2_0 qR.out; have qR_1 := row2_1 qR.out; ))
      obtain ⟨X, hX⟩ : ∃ X, w2.alloc (.cells #[.slice A2 n2 c2] 29) = X := ⟨_, rfl⟩
      rw [hX] at s1 p2 u qv qp qR qv_0 qv_1 qp_0 qR_0 qR_1 ⊢
      clear hX
      have s1_0 := s1.out.cell (i := 0) (by omega)
      have hT := Lib.hid (l9Own_any U k e0 us X.drew (show VotesAt X.drew X.drew.heap.size U k us from ⟨(huu.out.up u.out).1, (huu.out.up u.out).2⟩) hk hni'.out)
      have lR := Lib.hid qR.out.lt
      go_region_with (first
       | (go_at_call 86
          refine hT.out.mono ?_
          rintro e wa ⟨Aa, na, ca, rfl, oa0, ba0⟩
          have ba : Below X.heap.size X wa := ⟨ba0.os, ba0.tape, ba0.output, ba0.size, ba0.block⟩
          have oa := Lib.hid (show OwnV wa X.heap.size Aa na us from oa0)
          have ua := Lib.hid (u.out.trans (ba.mono u.out.size))
          have p3 := Lib.hid (p2.out.below ba)
          have t1 := Lib.hid (rowIs_below s1.out ba s1.out.lt)
          have xv := Lib.hid (rowIs_below qv.out ba qv.out.lt)
          have yR := Lib.hid (rowIs_below qR.out ba qR.out.lt)
          have t1_0 := t1.out.cell (i := 0) (by omega); have xv_1 := row2_1 xv.out
          have yR_0 := row2_0 yR.out; have yR_1 := row2_1 yR.out
          have gR0 := yR.out.frozen 0; have gR1 := yR.out.frozen 1
          have hap := Lib.hid (show Apart A2 Aa from fun ad ad' e e' => by have a1 := (p2.out.low ad e).2; have a2 := (oa.out.low ad' e').1; omega)
          clear ba ba0 oa0))
      all_goals
        go_wp2_with fail
        refine bodyPost_ret (results_row2 rfl _ _ (w.heap.size + 2) 63 #[.slice A2 n2 c2, .slice Aa na ca] (0, 0) _ rfl (pl_two (row2_set yR.out _ _)) Try.underlying63 rfl (by kernel_rfl)) rfl ?_
        exact ⟨A2, n2, c2, Aa, na, ca, by rw [hok.out]; rfl, by rw [hr.out]; exact (p3.out.setBox2 (g := w.heap.size + 2) lo2.out _ _).fewer (by have := lo2.out; omega), by rw [hr2.out]; exact (oa.out.setBox2 (g := w.heap.size + 2) lR.out _ _).fewer (by have := lR.out; omega), hap.out, (ua.out.setCell (p := ⟨w.heap.size + 2, 0, none⟩) (by show w.heap.size ≤ w.heap.size + 2; omega) _).setCell (p := ⟨w.heap.size + 2, 1, none⟩) (by show w.heap.size ≤ w.heap.size + 2; omega) _⟩
set_option maxRecDepth 100000 in
set_option maxHeartbeats 1600000 in
theorem specFreezeView_any (A : Option Addr) (n c : Nat) (ts : List Blk) (A' : Option Addr) (n' c' : Nat) (ss : List Int) (V : Option Addr) (m d : Nat) (vs : List Vt) (U : Option Addr) (k e0 : Nat) (us : List Vt) (w : World) (h : BlksAt w w.heap.size A n ts) (h' : IntsAt w w.heap.size A' n' ss) (hv : VotesAt w w.heap.size V m vs) (hu : VotesAt w w.heap.size U k us) (hn : n ≤ 1048576) (hn' : n' ≤ 1048576) (hm : m ≤ 1048576) (hk : k ≤ 1048576) (hc : m ≤ d) (hnil : V = none → m = 0 ∧ d = 0) (hd : k ≤ e0) (hnil' : U = none → k = 0 ∧ e0 = 0) :
    Calls Try.prog 46 #[.slice A n c, .slice A' n' c', .agg #[.slice V m d, .slice U k e0]] w (RetView w (viewOk ts ss vs us) (frzR ts ss vs us) (frzR ts ss vs us)) := by
  have hl := Lib.hid h.1; have hl' := Lib.hid h'.1
  have hh := Lib.hid h; have hh' := Lib.hid h'; clear h h'
  have hvv := Lib.hid hv; have huu := Lib.hid hu; have hni := Lib.hid hnil; have hni' := Lib.hid hnil'; clear hv hu hnil hnil'
  obtain ⟨r1, r2, bW, sW⟩ := bxVR_rows w (.slice V m d) (.slice U k e0) 63 63
  have qv := Lib.hid r1; have qR := Lib.hid r2; have u := Lib.hid bW
  clear r1 r2 bW sW
  have qv_0 := row2_0 qv.out; have qv_1 := row2_1 qv.out
  cases hg : viewOk ts ss vs us
  · have hr := Lib.hid (show frzR ts ss vs us = [] by unfold frzR; rw [if_neg (by rw [hg]; decide)])
    go_enter Try.func46, Try.ntmps46
    go_wp2_with (go_at_call 38; refine (specGoodView_any A n c ts A' n' c' ss V m d vs U k e0 us _ (hh.out.up u.out) (hh'.out.up' u.out) (hvv.out.up u.out) (huu.out.up u.out) hn hn' hm hk hc hni.out hd hni'.out).mono ?_; rintro e w1 ⟨rfl, b1⟩; rw [hg]; clear qv_0 qv_1; replace u := Lib.hid (u.out.trans (b1.mono u.out.size)); replace qv := Lib.hid (rowIs_below qv.out b1 qv.out.lt); replace qR := Lib.hid (rowIs_below qR.out b1 qR.out.lt); clear b1; have qv_0 := row2_0 qv.out; have qv_1 := row2_1 qv.out; have qR_0 := row2_0 qR.out; have qR_1 := row2_1 qR.out; have fR0 := qR.out.frozen 0; have fR1 := qR.out.frozen 1; )
    refine bodyPost_ret (results_row2 rfl _ _ (w.heap.size + 1) 63 #[.slice none 0 0, .slice none 0 0] (0, 0) _ rfl (pl_two (row2_set qR.out _ _)) Try.underlying63 rfl (by kernel_rfl)) rfl ?_
    exact ⟨none, 0, 0, none, 0, 0, rfl, by rw [hr.out]; exact OwnV.nil _ _, by rw [hr.out]; exact OwnV.nil _ _, apart_nil, (u.out.setCell (p := ⟨w.heap.size + 1, 0, none⟩) (by show w.heap.size ≤ w.heap.size + 1; omega) _).setCell (p := ⟨w.heap.size + 1, 1, none⟩) (by show w.heap.size ≤ w.heap.size + 1; omega) _⟩
  · have hr := Lib.hid (show frzR ts ss vs us = vs by unfold frzR; rw [if_pos hg])
    have hp := Lib.hid (view_s hg)
    have hnv := Lib.hid (show nvR ts ss vs = vs by unfold nvR; rw [if_pos hp.out])
    go_enter Try.func46, Try.ntmps46
    go_wp2_with (first
      | (go_at_call 38; refine (specGoodView_any A n c ts A' n' c' ss V m d vs U k e0 us _ (hh.out.up u.out) (hh'.out.up' u.out) (hvv.out.up u.out) (huu.out.up u.out) hn hn' hm hk hc hni.out hd hni'.out).mono ?_; rintro e w1 ⟨rfl, b1⟩; rw [hg]; clear qv_0 qv_1; have lo2 := Lib.hid (Nat.lt_of_lt_of_le qR.out.lt b1.size); replace u := Lib.hid (u.out.trans (b1.mono u.out.size)); replace qv := Lib.hid (rowIs_below qv.out b1 qv.out.lt); replace qR := Lib.hid (rowIs_below qR.out b1 qR.out.lt); clear b1; have qv_0 := row2_0 qv.out; have qv_1 := row2_1 qv.out; have qR_0 := row2_0 qR.out; have qR_1 := row2_1 qR.out; )
      | (go_at_call 54; refine (specNewView_any A n c ts A' n' c' ss V m d vs _ (hh.out.up u.out) (hh'.out.up' u.out) (hvv.out.up u.out) hn hn' hm hni.out).mono ?_; rw [hp.out, hnv.out]; rintro e w2 ⟨A2, n2, c2, A3, n3, c3, rfl, p2, p3, hap, b1⟩; have p2' := Lib.hid p2; have p3' := Lib.hid p3; have hap' := Lib.hid hap; clear p2 p3 hap; replace u := Lib.hid (u.out.trans (b1.mono u.out.size)); replace qv := Lib.hid (rowIs_below qv.out b1 qv.out.lt); replace qR := Lib.hid (rowIs_below qR.out b1 qR.out.lt); clear b1 qv_0 qv_1 qR_0 qR_1; have qv_0 := row2_0 qv.out; have qv_1 := row2_1 qv.out; have qR_0 := row2_0 qR.out; have qR_1 := row2_1 qR.out; have fR0 := qR.out.frozen 0; have fR1 := qR.out.frozen 1; ))
    refine bodyPost_ret (results_row2 rfl _ _ (w.heap.size + 1) 63 #[.slice A2 n2 c2, .slice A3 n3 c3] (0, 0) _ rfl (pl_two (row2_set qR.out _ _)) Try.underlying63 rfl (by kernel_rfl)) rfl ?_
    exact ⟨A2, n2, c2, A3, n3, c3, rfl, by rw [hr.out]; exact (p2'.out.setBox2 (g := w.heap.size + 1) lo2.out _ _).fewer (by have := lo2.out; omega), by rw [hr.out]; exact (p3'.out.setBox2 (g := w.heap.size + 1) lo2.out _ _).fewer (by have := lo2.out; omega), hap'.out, (u.out.setCell (p := ⟨w.heap.size + 1, 0, none⟩) (by show w.heap.size ≤ w.heap.size + 1; omega) _).setCell (p := ⟨w.heap.size + 1, 1, none⟩) (by show w.heap.size ≤ w.heap.size + 1; omega) _⟩
set_option maxRecDepth 100000 in
set_option maxHeartbeats 1600000 in
theorem specMergeView_any (A : Option Addr) (n c : Nat) (ts : List Blk) (A' : Option Addr) (n' c' : Nat) (ss : List Int) (V : Option Addr) (m d : Nat) (vs : List Vt) (U : Option Addr) (k e0 : Nat) (us : List Vt) (Z : Option Addr) (z y : Nat) (zs : List Vt) (w : World) (h : BlksAt w w.heap.size A n ts) (h' : IntsAt w w.heap.size A' n' ss) (hv : VotesAt w w.heap.size V m vs) (hu : VotesAt w w.heap.size U k us) (hz : VotesAt w w.heap.size Z z zs) (hn : n ≤ 1048576) (hn' : n' ≤ 1048576) (hm : m ≤ 1048576) (hk : k ≤ 1048576) (hzn : z ≤ 1048576) (hc : m ≤ d) (hnil : V = none → m = 0 ∧ d = 0) (hd : k ≤ e0) (hnil' : U = none → k = 0 ∧ e0 = 0) (_hy : z ≤ y) (hnz : Z = none → z = 0 ∧ y = 0) :
    Calls Try.prog 48 #[.slice A n c, .slice A' n' c', .agg #[.slice V m d, .slice U k e0], .agg #[.slice Z z y]] w (RetView w (mvOK ts ss vs us zs) (mvS ts ss vs us zs) (mvF ts ss vs us zs)) := by
  have hl := Lib.hid h.1; have hl' := Lib.hid h'.1
  have hh := Lib.hid h; have hh' := Lib.hid h'; clear h h'
  have hvv := Lib.hid hv; have huu := Lib.hid hu; have hzz := Lib.hid hz; have hni := Lib.hid hnil; have hni' := Lib.hid hnil'; have hnz' := Lib.hid hnz; clear hv hu hz hnil hnil' hnz
  obtain ⟨r1, r2, r3, bW, sW⟩ := bxVPR_rows w (.slice V m d) (.slice U k e0) (.slice Z z y) 63 29 63
  have qv := Lib.hid r1; have qp := Lib.hid r2; have qR := Lib.hid r3; have u := Lib.hid bW
  clear r1 r2 r3 bW sW
  have qv_0 := row2_0 qv.out; have qv_1 := row2_1 qv.out; have qp_0 := qp.out.cell (i := 0) (by omega)
  cases hg : viewOk ts ss vs us
  · skip
    have hok := Lib.hid (show mvOK ts ss vs us zs = false by unfold mvOK; rw [hg]; rfl)
    have hr := Lib.hid (show mvS ts ss vs us zs = [] by unfold mvS; rw [if_neg (by rw [hok.out]; decide)])
    have hr2 := Lib.hid (show mvF ts ss vs us zs = [] by unfold mvF; rw [if_neg (by rw [hok.out]; decide)])
    go_enter Try.func48, Try.ntmps48
    go_wp2_with (go_at_call 38; refine (specGoodView_any A n c ts A' n' c' ss V m d vs U k e0 us _ (hh.out.up u.out) (hh'.out.up' u.out) (hvv.out.up u.out) (huu.out.up u.out) hn hn' hm hk hc hni.out hd hni'.out).mono ?_; rintro e w1 ⟨rfl, b1⟩; rw [hg]; clear qv_0 qv_1 qp_0; replace u := Lib.hid (u.out.trans (b1.mono u.out.size)); replace qv := Lib.hid (rowIs_below qv.out b1 qv.out.lt); replace qp := Lib.hid (rowIs_below qp.out b1 qp.out.lt); replace qR := Lib.hid (rowIs_below qR.out b1 qR.out.lt); clear b1; have qv_0 := row2_0 qv.out; have qv_1 := row2_1 qv.out; have qp_0 := qp.out.cell (i := 0) (by omega); have qR_0 := row2_0 qR.out; have qR_1 := row2_1 qR.out; have fR0 := qR.out.frozen 0; have fR1 := qR.out.frozen 1; )
    refine bodyPost_ret (results_row2 rfl _ _ (w.heap.size + 2) 63 #[.slice none 0 0, .slice none 0 0] (0, 0) _ rfl (pl_two (row2_set qR.out _ _)) Try.underlying63 rfl (by kernel_rfl)) rfl ?_
    exact ⟨none, 0, 0, none, 0, 0, by rw [hok.out]; rfl, by rw [hr.out]; exact OwnV.nil _ _, by rw [hr2.out]; exact OwnV.nil _ _, apart_nil, (u.out.setCell (p := ⟨w.heap.size + 2, 0, none⟩) (by show w.heap.size ≤ w.heap.size + 2; omega) _).setCell (p := ⟨w.heap.size + 2, 1, none⟩) (by show w.heap.size ≤ w.heap.size + 2; omega) _⟩
  · skip
    cases hg2 : mrgOK ts ss vs zs
    · skip
      cases hg3 : mrgOK ts ss us zs
      · skip
        have hok := Lib.hid (show mvOK ts ss vs us zs = false by unfold mvOK; rw [hg, hg2]; rfl)
        have hr := Lib.hid (show mvS ts ss vs us zs = [] by unfold mvS; rw [if_neg (by rw [hok.out]; decide)])
        have hr2 := Lib.hid (show mvF ts ss vs us zs = [] by unfold mvF; rw [if_neg (by rw [hok.out]; decide)])
        go_enter Try.func48, Try.ntmps48
        have tk0 : True := trivial
        go_wp2_with (first
        | (go_at_call 38; refine (specGoodView_any A n c ts A' n' c' ss V m d vs U k e0 us _ (hh.out.up u.out) (hh'.out.up' u.out) (hvv.out.up u.out) (huu.out.up u.out) hn hn' hm hk hc hni.out hd hni'.out).mono ?_; rintro e w1 ⟨rfl, b1⟩; rw [hg]; clear qv_0 qv_1 qp_0; replace u := Lib.hid (u.out.trans (b1.mono u.out.size)); replace qv := Lib.hid (rowIs_below qv.out b1 qv.out.lt); replace qp := Lib.hid (rowIs_below qp.out b1 qp.out.lt); replace qR := Lib.hid (rowIs_below qR.out b1 qR.out.lt); clear b1; have qv_0 := row2_0 qv.out; have qv_1 := row2_1 qv.out; have qp_0 := qp.out.cell (i := 0) (by omega); have qR_0 := row2_0 qR.out; have qR_1 := row2_1 qR.out; )
        | (clear tk0; go_at_call 35; refine (specMergePoolsX_any A n c ts A' n' c' ss V m d vs Z z y zs _ (hh.out.up u.out) (hh'.out.up' u.out) (hvv.out.up u.out) (hzz.out.up u.out) hn hn' hm hzn hc hni.out hnz'.out).mono ?_; rw [hg2]; rintro e w2 ⟨A2, n2, c2, rfl, o2, b0⟩; have b1 := b0.trans ((bx_below w2 (.cells #[.slice A2 n2 c2] 29)).mono b0.size); clear o2 b0; replace u := Lib.hid (u.out.trans (b1.mono u.out.size)); replace qv := Lib.hid (rowIs_below qv.out b1 qv.out.lt); replace qp := Lib.hid (rowIs_below qp.out b1 qp.out.lt); replace qR := Lib.hid (rowIs_below qR.out b1 qR.out.lt); clear b1 qv_0 qv_1 qp_0 qR_0 qR_1; have qv_0 := row2_0 qv.out; have qv_1 := row2_1 qv.out; have qp_0 := qp.out.cell (i := 0) (by omega); have qR_0 := row2_0 qR.out; have qR_1 := row2_1 qR.out; have tk1 : True := trivial)
        | (clear tk1; go_at_call 35; refine (specMergePoolsX_any A n c ts A' n' c' ss U k e0 us Z z y zs _ (hh.out.up u.out) (hh'.out.up' u.out) (huu.out.up u.out) (hzz.out.up u.out) hn hn' hk hzn hd hni'.out hnz'.out).mono ?_; rw [hg3]; rintro e w3 ⟨A3, n3, c3, rfl, o3, b0⟩; have b1 := b0.trans ((bx_below w3 (.cells #[.slice A3 n3 c3] 29)).mono b0.size); clear o3 b0; replace u := Lib.hid (u.out.trans (b1.mono u.out.size)); replace qv := Lib.hid (rowIs_below qv.out b1 qv.out.lt); replace qp := Lib.hid (rowIs_below qp.out b1 qp.out.lt); replace qR := Lib.hid (rowIs_below qR.out b1 qR.out.lt); clear b1 qv_0 qv_1 qp_0 qR_0 qR_1; have qv_0 := row2_0 qv.out; have qv_1 := row2_1 qv.out; have qp_0 := qp.out.cell (i := 0) (by omega); have qR_0 := row2_0 qR.out; have qR_1 := row2_1 qR.out; have fR0 := qR.out.frozen 0; have fR1 := qR.out.frozen 1; ))
        refine bodyPost_ret (results_row2 rfl _ _ (w.heap.size + 2) 63 #[.slice none 0 0, .slice none 0 0] (0, 0) _ rfl (pl_two (row2_set qR.out _ _)) Try.underlying63 rfl (by kernel_rfl)) rfl ?_
        exact ⟨none, 0, 0, none, 0, 0, by rw [hok.out]; rfl, by rw [hr.out]; exact OwnV.nil _ _, by rw [hr2.out]; exact OwnV.nil _ _, apart_nil, (u.out.setCell (p := ⟨w.heap.size + 2, 0, none⟩) (by show w.heap.size ≤ w.heap.size + 2; omega) _).setCell (p := ⟨w.heap.size + 2, 1, none⟩) (by show w.heap.size ≤ w.heap.size + 2; omega) _⟩
      · skip
        have hok := Lib.hid (show mvOK ts ss vs us zs = false by unfold mvOK; rw [hg, hg2]; rfl)
        have hr := Lib.hid (show mvS ts ss vs us zs = [] by unfold mvS; rw [if_neg (by rw [hok.out]; decide)])
        have hr2 := Lib.hid (show mvF ts ss vs us zs = [] by unfold mvF; rw [if_neg (by rw [hok.out]; decide)])
        go_enter Try.func48, Try.ntmps48
        have tk0 : True := trivial
        go_wp2_with (first
        | (go_at_call 38; refine (specGoodView_any A n c ts A' n' c' ss V m d vs U k e0 us _ (hh.out.up u.out) (hh'.out.up' u.out) (hvv.out.up u.out) (huu.out.up u.out) hn hn' hm hk hc hni.out hd hni'.out).mono ?_; rintro e w1 ⟨rfl, b1⟩; rw [hg]; clear qv_0 qv_1 qp_0; replace u := Lib.hid (u.out.trans (b1.mono u.out.size)); replace qv := Lib.hid (rowIs_below qv.out b1 qv.out.lt); replace qp := Lib.hid (rowIs_below qp.out b1 qp.out.lt); replace qR := Lib.hid (rowIs_below qR.out b1 qR.out.lt); clear b1; have qv_0 := row2_0 qv.out; have qv_1 := row2_1 qv.out; have qp_0 := qp.out.cell (i := 0) (by omega); have qR_0 := row2_0 qR.out; have qR_1 := row2_1 qR.out; )
        | (clear tk0; go_at_call 35; refine (specMergePoolsX_any A n c ts A' n' c' ss V m d vs Z z y zs _ (hh.out.up u.out) (hh'.out.up' u.out) (hvv.out.up u.out) (hzz.out.up u.out) hn hn' hm hzn hc hni.out hnz'.out).mono ?_; rw [hg2]; rintro e w2 ⟨A2, n2, c2, rfl, o2, b0⟩; have b1 := b0.trans ((bx_below w2 (.cells #[.slice A2 n2 c2] 29)).mono b0.size); clear o2 b0; replace u := Lib.hid (u.out.trans (b1.mono u.out.size)); replace qv := Lib.hid (rowIs_below qv.out b1 qv.out.lt); replace qp := Lib.hid (rowIs_below qp.out b1 qp.out.lt); replace qR := Lib.hid (rowIs_below qR.out b1 qR.out.lt); clear b1 qv_0 qv_1 qp_0 qR_0 qR_1; have qv_0 := row2_0 qv.out; have qv_1 := row2_1 qv.out; have qp_0 := qp.out.cell (i := 0) (by omega); have qR_0 := row2_0 qR.out; have qR_1 := row2_1 qR.out; have tk1 : True := trivial)
        | (clear tk1; go_at_call 35; refine (specMergePoolsX_any A n c ts A' n' c' ss U k e0 us Z z y zs _ (hh.out.up u.out) (hh'.out.up' u.out) (huu.out.up u.out) (hzz.out.up u.out) hn hn' hk hzn hd hni'.out hnz'.out).mono ?_; rw [hg3]; rintro e w3 ⟨A3, n3, c3, rfl, o3, b0⟩; have b1 := b0.trans ((bx_below w3 (.cells #[.slice A3 n3 c3] 29)).mono b0.size); clear o3 b0; replace u := Lib.hid (u.out.trans (b1.mono u.out.size)); replace qv := Lib.hid (rowIs_below qv.out b1 qv.out.lt); replace qp := Lib.hid (rowIs_below qp.out b1 qp.out.lt); replace qR := Lib.hid (rowIs_below qR.out b1 qR.out.lt); clear b1 qv_0 qv_1 qp_0 qR_0 qR_1; have qv_0 := row2_0 qv.out; have qv_1 := row2_1 qv.out; have qp_0 := qp.out.cell (i := 0) (by omega); have qR_0 := row2_0 qR.out; have qR_1 := row2_1 qR.out; have fR0 := qR.out.frozen 0; have fR1 := qR.out.frozen 1; ))
        refine bodyPost_ret (results_row2 rfl _ _ (w.heap.size + 2) 63 #[.slice none 0 0, .slice none 0 0] (0, 0) _ rfl (pl_two (row2_set qR.out _ _)) Try.underlying63 rfl (by kernel_rfl)) rfl ?_
        exact ⟨none, 0, 0, none, 0, 0, by rw [hok.out]; rfl, by rw [hr.out]; exact OwnV.nil _ _, by rw [hr2.out]; exact OwnV.nil _ _, apart_nil, (u.out.setCell (p := ⟨w.heap.size + 2, 0, none⟩) (by show w.heap.size ≤ w.heap.size + 2; omega) _).setCell (p := ⟨w.heap.size + 2, 1, none⟩) (by show w.heap.size ≤ w.heap.size + 2; omega) _⟩
    · skip
      have hmr := Lib.hid (show mrgR ts ss vs zs = setV (vs ++ zs) by unfold mrgR; rw [if_pos hg2])
      cases hg3 : mrgOK ts ss us zs
      · skip
        have hok := Lib.hid (show mvOK ts ss vs us zs = false by unfold mvOK; rw [hg, hg2, hg3]; rfl)
        have hr := Lib.hid (show mvS ts ss vs us zs = [] by unfold mvS; rw [if_neg (by rw [hok.out]; decide)])
        have hr2 := Lib.hid (show mvF ts ss vs us zs = [] by unfold mvF; rw [if_neg (by rw [hok.out]; decide)])
        go_enter Try.func48, Try.ntmps48
        have tk0 : True := trivial
        go_wp2_with (first
        | (go_at_call 38; refine (specGoodView_any A n c ts A' n' c' ss V m d vs U k e0 us _ (hh.out.up u.out) (hh'.out.up' u.out) (hvv.out.up u.out) (huu.out.up u.out) hn hn' hm hk hc hni.out hd hni'.out).mono ?_; rintro e w1 ⟨rfl, b1⟩; rw [hg]; clear qv_0 qv_1 qp_0; replace u := Lib.hid (u.out.trans (b1.mono u.out.size)); replace qv := Lib.hid (rowIs_below qv.out b1 qv.out.lt); replace qp := Lib.hid (rowIs_below qp.out b1 qp.out.lt); replace qR := Lib.hid (rowIs_below qR.out b1 qR.out.lt); clear b1; have qv_0 := row2_0 qv.out; have qv_1 := row2_1 qv.out; have qp_0 := qp.out.cell (i := 0) (by omega); have qR_0 := row2_0 qR.out; have qR_1 := row2_1 qR.out; )
        | (clear tk0; go_at_call 35; refine (specMergePoolsX_any A n c ts A' n' c' ss V m d vs Z z y zs _ (hh.out.up u.out) (hh'.out.up' u.out) (hvv.out.up u.out) (hzz.out.up u.out) hn hn' hm hzn hc hni.out hnz'.out).mono ?_; rw [hg2, hmr.out]; rintro e w2 ⟨A2, n2, c2, rfl, o2, b0⟩; have k0 := bx_below w2 (.cells #[.slice A2 n2 c2] 29); have s1 := Lib.hid (bx_row w2 (.slice A2 n2 c2) 29); have p2 := Lib.hid (o2.below k0); have lo2 := Lib.hid qR.out.lt; have b1 := b0.trans (k0.mono b0.size); clear o2 b0 k0; replace u := Lib.hid (u.out.trans (b1.mono u.out.size)); replace qv := Lib.hid (rowIs_below qv.out b1 qv.out.lt); replace qp := Lib.hid (rowIs_below qp.out b1 qp.out.lt); replace qR := Lib.hid (rowIs_below qR.out b1 qR.out.lt); clear b1 qv_0 qv_1 qp_0 qR_0 qR_1; have qv_0 := row2_0 qv.out; have qv_1 := row2_1 qv.out; have qp_0 := qp.out.cell (i := 0) (by omega); have qR_0 := row2_0 qR.out; have qR_1 := row2_1 qR.out; have tk1 : True := trivial)
        | (clear tk1; go_at_call 35; refine (specMergePoolsX_any A n c ts A' n' c' ss U k e0 us Z z y zs _ (hh.out.up u.out) (hh'.out.up' u.out) (huu.out.up u.out) (hzz.out.up u.out) hn hn' hk hzn hd hni'.out hnz'.out).mono ?_; rw [hg3]; rintro e w3 ⟨A3, n3, c3, rfl, o3, b0⟩; have b1 := b0.trans ((bx_below w3 (.cells #[.slice A3 n3 c3] 29)).mono b0.size); clear o3 b0; replace u := Lib.hid (u.out.trans (b1.mono u.out.size)); replace qv := Lib.hid (rowIs_below qv.out b1 qv.out.lt); replace qp := Lib.hid (rowIs_below qp.out b1 qp.out.lt); replace qR := Lib.hid (rowIs_below qR.out b1 qR.out.lt); clear b1 qv_0 qv_1 qp_0 qR_0 qR_1; have qv_0 := row2_0 qv.out; have qv_1 := row2_1 qv.out; have qp_0 := qp.out.cell (i := 0) (by omega); have qR_0 := row2_0 qR.out; have qR_1 := row2_1 qR.out; have fR0 := qR.out.frozen 0; have fR1 := qR.out.frozen 1; ))
        refine bodyPost_ret (results_row2 rfl _ _ (w.heap.size + 2) 63 #[.slice none 0 0, .slice none 0 0] (0, 0) _ rfl (pl_two (row2_set qR.out _ _)) Try.underlying63 rfl (by kernel_rfl)) rfl ?_
        exact ⟨none, 0, 0, none, 0, 0, by rw [hok.out]; rfl, by rw [hr.out]; exact OwnV.nil _ _, by rw [hr2.out]; exact OwnV.nil _ _, apart_nil, (u.out.setCell (p := ⟨w.heap.size + 2, 0, none⟩) (by show w.heap.size ≤ w.heap.size + 2; omega) _).setCell (p := ⟨w.heap.size + 2, 1, none⟩) (by show w.heap.size ≤ w.heap.size + 2; omega) _⟩
      · skip
        have hok := Lib.hid (show mvOK ts ss vs us zs = true by unfold mvOK; rw [hg, hg2, hg3]; rfl)
        have hr := Lib.hid (show mvS ts ss vs us zs = setV (vs ++ zs) by unfold mvS; rw [if_pos hok.out])
        have hr2 := Lib.hid (show mvF ts ss vs us zs = setV (us ++ zs) by unfold mvF; rw [if_pos hok.out])
        have hmr2 := Lib.hid (show mrgR ts ss us zs = setV (us ++ zs) by unfold mrgR; rw [if_pos hg3])
        go_enter Try.func48, Try.ntmps48
        have tk0 : True := trivial
        go_wp2_with (first
        | (go_at_call 38; refine (specGoodView_any A n c ts A' n' c' ss V m d vs U k e0 us _ (hh.out.up u.out) (hh'.out.up' u.out) (hvv.out.up u.out) (huu.out.up u.out) hn hn' hm hk hc hni.out hd hni'.out).mono ?_; rintro e w1 ⟨rfl, b1⟩; rw [hg]; clear qv_0 qv_1 qp_0; replace u := Lib.hid (u.out.trans (b1.mono u.out.size)); replace qv := Lib.hid (rowIs_below qv.out b1 qv.out.lt); replace qp := Lib.hid (rowIs_below qp.out b1 qp.out.lt); replace qR := Lib.hid (rowIs_below qR.out b1 qR.out.lt); clear b1; have qv_0 := row2_0 qv.out; have qv_1 := row2_1 qv.out; have qp_0 := qp.out.cell (i := 0) (by omega); have qR_0 := row2_0 qR.out; have qR_1 := row2_1 qR.out; )
        | (clear tk0; go_at_call 35; refine (specMergePoolsX_any A n c ts A' n' c' ss V m d vs Z z y zs _ (hh.out.up u.out) (hh'.out.up' u.out) (hvv.out.up u.out) (hzz.out.up u.out) hn hn' hm hzn hc hni.out hnz'.out).mono ?_; rw [hg2, hmr.out]; rintro e w2 ⟨A2, n2, c2, rfl, o2, b0⟩; have k0 := bx_below w2 (.cells #[.slice A2 n2 c2] 29); have s1 := Lib.hid (bx_row w2 (.slice A2 n2 c2) 29); have p2 := Lib.hid (o2.below k0); have lo2 := Lib.hid qR.out.lt; have b1 := b0.trans (k0.mono b0.size); clear o2 b0 k0; replace u := Lib.hid (u.out.trans (b1.mono u.out.size)); replace qv := Lib.hid (rowIs_below qv.out b1 qv.out.lt); replace qp := Lib.hid (rowIs_below qp.out b1 qp.out.lt); replace qR := Lib.hid (rowIs_below qR.out b1 qR.out.lt); clear b1 qv_0 qv_1 qp_0 qR_0 qR_1; have qv_0 := row2_0 qv.out; have qv_1 := row2_1 qv.out; have qp_0 := qp.out.cell (i := 0) (by omega); have qR_0 := row2_0 qR.out; have qR_1 := row2_1 qR.out; have tk1 : True := trivial)
        | (clear tk1; go_at_call 35; refine (specMergePoolsX_any A n c ts A' n' c' ss U k e0 us Z z y zs _ (hh.out.up u.out) (hh'.out.up' u.out) (huu.out.up u.out) (hzz.out.up u.out) hn hn' hk hzn hd hni'.out hnz'.out).mono ?_; rw [hg3, hmr2.out]; rintro e w3 ⟨A3, n3, c3, rfl, o3, b0⟩; have k0 := bx_below w3 (.cells #[.slice A3 n3 c3] 29); have s2 := Lib.hid (bx_row w3 (.slice A3 n3 c3) 29); have p3 := Lib.hid (o3.below k0); have hap := Lib.hid (show Apart A2 A3 from fun ad ad' e e' => by have a1 := (p2.out.low ad e).2; have a2 := (o3.low ad' e').1; omega); have lo3 := Lib.hid qR.out.lt; have b1 := b0.trans (k0.mono b0.size); have p2' := Lib.hid (p2.out.below b1); replace s1 := Lib.hid (rowIs_below s1.out b1 s1.out.lt); clear o3 b0 k0; have s1_0 := s1.out.cell (i := 0) (by omega); have s2_0 := s2.out.cell (i := 0) (by omega); replace u := Lib.hid (u.out.trans (b1.mono u.out.size)); replace qv := Lib.hid (rowIs_below qv.out b1 qv.out.lt); replace qp := Lib.hid (rowIs_below qp.out b1 qp.out.lt); replace qR := Lib.hid (rowIs_below qR.out b1 qR.out.lt); clear b1 qv_0 qv_1 qp_0 qR_0 qR_1; have qv_0 := row2_0 qv.out; have qv_1 := row2_1 qv.out; have qp_0 := qp.out.cell (i := 0) (by omega); have qR_0 := row2_0 qR.out; have qR_1 := row2_1 qR.out; have fR0 := qR.out.frozen 0; have fR1 := qR.out.frozen 1; ))
        refine bodyPost_ret (results_row2 rfl _ _ (w.heap.size + 2) 63 #[.slice A2 n2 c2, .slice A3 n3 c3] (0, 0) _ rfl (pl_two (row2_set qR.out _ _)) Try.underlying63 rfl (by kernel_rfl)) rfl ?_
        exact ⟨A2, n2, c2, A3, n3, c3, by rw [hok.out]; rfl, by rw [hr.out]; exact (p2'.out.setBox2 (g := w.heap.size + 2) lo2.out _ _).fewer (by have := lo2.out; omega), by rw [hr2.out]; exact (p3.out.setBox2 (g := w.heap.size + 2) lo3.out _ _).fewer (by have := lo3.out; omega), hap.out, (u.out.setCell (p := ⟨w.heap.size + 2, 0, none⟩) (by show w.heap.size ≤ w.heap.size + 2; omega) _).setCell (p := ⟨w.heap.size + 2, 1, none⟩) (by show w.heap.size ≤ w.heap.size + 2; omega) _⟩
end Go.Proofs.Ytlobjfipefibaaa
