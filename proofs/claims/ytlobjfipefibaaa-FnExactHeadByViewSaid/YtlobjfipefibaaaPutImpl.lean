/- What is proved here: what the model's PutVote returns. No conditions but lengths, and a slice's room. -/
import Derived.Test.YtlobjfipefibaaaMergeSpec
import Derived.Test.YtlobjfipefibaaaMergeImpl
namespace Go.Proofs.Ytlobjfipefibaaa
open Go.RowKit

theorem results_row3 {P : Program} {fn : Func} {p u u' : Tmp} {ty : TypeId} (h : fn.results = #[.cell p ty, .tmp u, .tmp u']) (tmps : Array Value) (w : World) (g : Nat) (t : TypeId) (cs : Array Value) (fr : Nat × Nat) (d : TypeDesc)
    (hp : tmps.getD p undef = .pointer (some ⟨g, 0, none⟩)) (hg : w.heap[g]? = some (.cells cs t fr))
    (hu : P.underlying ty = some d) (hd : (match d with | .struct _ | .array _ _ => true | _ => false) = true) (hi : (P.info? ty).map (·.size) = some cs.size) :
    (results fn tmps).run P w = .ok (.tuple #[.agg cs, tmps.getD u undef, tmps.getD u' undef]) w := by
  have h0 : (results fn tmps).run P w =
      ((asAddr (tmps.getD p undef)).run P w).andThen fun a w₁ => ((loadVar ty a).run P w₁).andThen fun v w₂ => .ok (.tuple #[v, tmps.getD u undef, tmps.getD u' undef]) w₂ := by
    simp only [results, h]
    simp [Sem.run_bind, Result.andThen]
  rw [h0, hp]
  simp [asAddr, run_loadVar_row w g t ty cs fr d hg hu hd hi]
def RetPut (w : World) (k : Int) (b : Bool) (vs : List Vt) (e : Ending) (w' : World) : Prop :=
  ∃ A n c, e = .returned (.tuple #[.agg #[.slice A n c], .int .i64 k, .bool b]) ∧ OwnV w' w.heap.size A n vs ∧ Below w.heap.size w w'
def putOK (ts : List Blk) (ss : List Int) (l : List Vt) (v : Vt) : Bool := poolOk ts ss l && voteOk ts ss.length v
def putC (ts : List Blk) (ss : List Int) (l : List Vt) (v : Vt) : Int := if putOK ts ss l v = true then (if (putV l v).length ≤ l.length then 1 else if (putV l v).length ≤ 60 then 0 else 2) else 0
def putR (ts : List Blk) (ss : List Int) (l : List Vt) (v : Vt) : List Vt := if putOK ts ss l v = true then (if (putV l v).length ≤ l.length then l else if (putV l v).length ≤ 60 then putV l v else l) else []
theorem cells_of_votes {w w1 : World} {V : Option Addr} {m : Nat} {vs : List Vt} (h : VotesAt w w.heap.size V m vs) (hb : Below w.heap.size w w1) : ∀ ad, V = some ad → ∀ t, t < m * 3 → ∀ W', Below w1.heap.size w1 W' → W'.cell? (ad.add t) = some (cellsV vs t) := fun ad e0 t ht W' hb' => by
  obtain ⟨b', off', e, hbl, _⟩ := h.2 0 (by omega)
  rw [e0] at e
  cases e
  have h1 := h
  rw [e0] at h1
  rw [Addr.add_lit]
  exact ((hb.trans (hb'.mono hb.size)).cell (p := ⟨b', off' + t, none⟩) hbl).trans (votes_cell h1 ht)
theorem bxv_rows (w : World) (v1 v3 : Value) (x y z : Int) (t1 t2 t3 : TypeId) : (((w.alloc (.cells #[v1] t1)).alloc (.cells #[.int .i64 x, .int .i64 y, .int .i64 z] t2)).alloc (.cells #[v3] t3)).rowIs w.heap.size t1 1 (fun _ => v1) ∧
    (((w.alloc (.cells #[v1] t1)).alloc (.cells #[.int .i64 x, .int .i64 y, .int .i64 z] t2)).alloc (.cells #[v3] t3)).rowIs (w.heap.size + 1) t2 3 (fun i => if i = 0 then .int .i64 x else if i = 1 then .int .i64 y else .int .i64 z) ∧
    (((w.alloc (.cells #[v1] t1)).alloc (.cells #[.int .i64 x, .int .i64 y, .int .i64 z] t2)).alloc (.cells #[v3] t3)).rowIs (w.heap.size + 2) t3 1 (fun _ => v3) ∧
    Below w.heap.size w (((w.alloc (.cells #[v1] t1)).alloc (.cells #[.int .i64 x, .int .i64 y, .int .i64 z] t2)).alloc (.cells #[v3] t3)) := by
  obtain ⟨r1, b1, s1⟩ := bx1_rows w v1 t1
  have r2 := three_cells (w.alloc (.cells #[v1] t1)) x y z t2
  have b2 := bx_below (w.alloc (.cells #[v1] t1)) (.cells #[.int .i64 x, .int .i64 y, .int .i64 z] t2)
  have r3 := bx_row ((w.alloc (.cells #[v1] t1)).alloc (.cells #[.int .i64 x, .int .i64 y, .int .i64 z] t2)) v3 t3
  have b3 := bx_below ((w.alloc (.cells #[v1] t1)).alloc (.cells #[.int .i64 x, .int .i64 y, .int .i64 z] t2)) (.cells #[v3] t3)
  have s2 : ((w.alloc (.cells #[v1] t1)).alloc (.cells #[.int .i64 x, .int .i64 y, .int .i64 z] t2)).heap.size = w.heap.size + 2 := by simp
  have q1 := rowIs_below (rowIs_below r1 b2 r1.lt) b3 (by rw [s2]; omega)
  rw [s1] at r2
  have q2 := rowIs_below r2 b3 r2.lt
  rw [s2] at r3
  exact ⟨q1, q2, r3, b1.trans ((b2.mono b1.size).trans (b3.mono (by rw [s2]; omega)))⟩
set_option maxRecDepth 100000 in
set_option maxHeartbeats 1600000 in
theorem specPutVote_any (A : Option Addr) (n c : Nat) (ts : List Blk) (A' : Option Addr) (n' c' : Nat) (ss : List Int) (V : Option Addr) (m d : Nat) (vs : List Vt) (x y z : Int) (w : World) (h : BlksAt w w.heap.size A n ts) (h' : IntsAt w w.heap.size A' n' ss) (hv : VotesAt w w.heap.size V m vs) (hn : n ≤ 1048576) (hn' : n' ≤ 1048576) (hm : m ≤ 1048576) (hcap : m ≤ d) (hnil : V = none → m = 0 ∧ d = 0) :
    Calls Try.prog 31 #[.slice A n c, .slice A' n' c', .agg #[.slice V m d], .agg #[.int .i64 x, .int .i64 y, .int .i64 z]] w (RetPut w (putC ts ss vs (x, y, z)) (putOK ts ss vs (x, y, z)) (putR ts ss vs (x, y, z))) := by
  have hlv := Lib.hid hv.1; have hl' := Lib.hid h'.1
  have hh := Lib.hid h; have hh' := Lib.hid h'; have hvv := Lib.hid hv; have hnil' := Lib.hid hnil; clear h h' hv hnil
  obtain ⟨r1, r2, rR, bW⟩ := bxv_rows w (.slice V m d) (.slice none 0 0) x y z 29 53 29
  have q1 := Lib.hid r1; have q2 := Lib.hid r2
  have qR := Lib.hid rR; have u := Lib.hid bW
  clear bW rR r1 r2
  have hc1 := q1.out.cell (i := 0) (by omega); have hd0 := q2.out.cell (i := 0) (by omega); have hd1 := q2.out.cell (i := 1) (by omega); have hd2 := q2.out.cell (i := 2) (by omega)
  simp only [Nat.reduceEqDiff, if_true, if_false, Nat.one_ne_zero] at hd0 hd1 hd2
  cases hg : poolOk ts ss vs
  · skip
    have hok := Lib.hid (show putOK ts ss vs (x, y, z) = false by unfold putOK; rw [hg]; simp)
    have hr := Lib.hid (show putR ts ss vs (x, y, z) = [] by unfold putR; rw [if_neg (by rw [hok.out]; decide)])
    have hcd := Lib.hid (show putC ts ss vs (x, y, z) = 0 by unfold putC; rw [if_neg (by rw [hok.out]; decide)])
    go_enter Try.func31, Try.ntmps31
    have tk0 : True := trivial
    have tk1 : True := trivial
    go_wp2_with (first
      | (clear tk0; go_at_call 78; refine (specGoodPool_any A n c ts A' n' c' ss V m d vs _ (hh.out.up u.out) (hh'.out.up' u.out) (hvv.out.up u.out) hn hn' hm).mono ?_; rintro e w1 ⟨rfl, b1⟩; rw [hg]; replace u := Lib.hid (u.out.trans (b1.mono u.out.size)); replace q1 := Lib.hid (rowIs_below q1.out b1 q1.out.lt); replace q2 := Lib.hid (rowIs_below q2.out b1 q2.out.lt); replace qR := Lib.hid (rowIs_below qR.out b1 qR.out.lt); clear b1 hc1 hd0 hd1 hd2; have hc1 := q1.out.cell (i := 0) (by omega); have hd0 := q2.out.cell (i := 0) (by omega); have hd1 := q2.out.cell (i := 1) (by omega); have hd2 := q2.out.cell (i := 2) (by omega); simp only [Nat.reduceEqDiff, if_true, if_false, Nat.one_ne_zero] at hd0 hd1 hd2; have hcR := qR.out.cell (i := 0) (by omega); have hfR := qR.out.frozen 0))
    refine bodyPost_ret (results_row3 rfl _ _ (w.heap.size + 2) 29 #[.slice none 0 0] (0, 0) _ rfl (pl_one_set qR.out _) Try.underlying29 rfl (by kernel_rfl)) rfl ?_
    exact ⟨none, 0, 0, by rw [hok.out, hcd.out]; rfl, by rw [hr.out]; exact OwnV.nil _ _, u.out.setCell (by show w.heap.size ≤ w.heap.size + 2; omega) _⟩
  · skip
    cases hg' : voteOk ts n' (x, y, z)
    · skip
      have hok := Lib.hid (show putOK ts ss vs (x, y, z) = false by unfold putOK; rw [hg, hl'.out, hg']; simp)
      have hr := Lib.hid (show putR ts ss vs (x, y, z) = [] by unfold putR; rw [if_neg (by rw [hok.out]; decide)])
      have hcd := Lib.hid (show putC ts ss vs (x, y, z) = 0 by unfold putC; rw [if_neg (by rw [hok.out]; decide)])
      go_enter Try.func31, Try.ntmps31
      have tk0 : True := trivial
      have tk1 : True := trivial
      go_wp2_with (first
        | (clear tk0; go_at_call 78; refine (specGoodPool_any A n c ts A' n' c' ss V m d vs _ (hh.out.up u.out) (hh'.out.up' u.out) (hvv.out.up u.out) hn hn' hm).mono ?_; rintro e w1 ⟨rfl, b1⟩; rw [hg]; replace u := Lib.hid (u.out.trans (b1.mono u.out.size)); replace q1 := Lib.hid (rowIs_below q1.out b1 q1.out.lt); replace q2 := Lib.hid (rowIs_below q2.out b1 q2.out.lt); replace qR := Lib.hid (rowIs_below qR.out b1 qR.out.lt); clear b1 hc1 hd0 hd1 hd2; have hc1 := q1.out.cell (i := 0) (by omega); have hd0 := q2.out.cell (i := 0) (by omega); have hd1 := q2.out.cell (i := 1) (by omega); have hd2 := q2.out.cell (i := 2) (by omega); simp only [Nat.reduceEqDiff, if_true, if_false, Nat.one_ne_zero] at hd0 hd1 hd2; have hcR := qR.out.cell (i := 0) (by omega); have hfR := qR.out.frozen 0)
        | (clear tk1; go_at_call 79; refine (l6Vote_any A n c ts A' n' c' x y z _ (hh.out.up u.out) hn hn').mono ?_; rintro e w1 ⟨rfl, b1⟩; rw [hg']; replace u := Lib.hid (u.out.trans (b1.mono u.out.size)); replace q1 := Lib.hid (rowIs_below q1.out b1 q1.out.lt); replace q2 := Lib.hid (rowIs_below q2.out b1 q2.out.lt); replace qR := Lib.hid (rowIs_below qR.out b1 qR.out.lt); clear b1 hc1 hd0 hd1 hd2 hcR hfR; have hc1 := q1.out.cell (i := 0) (by omega); have hd0 := q2.out.cell (i := 0) (by omega); have hd1 := q2.out.cell (i := 1) (by omega); have hd2 := q2.out.cell (i := 2) (by omega); simp only [Nat.reduceEqDiff, if_true, if_false, Nat.one_ne_zero] at hd0 hd1 hd2; have hcR := qR.out.cell (i := 0) (by omega); have hfR := qR.out.frozen 0))
      refine bodyPost_ret (results_row3 rfl _ _ (w.heap.size + 2) 29 #[.slice none 0 0] (0, 0) _ rfl (pl_one_set qR.out _) Try.underlying29 rfl (by kernel_rfl)) rfl ?_
      exact ⟨none, 0, 0, by rw [hok.out, hcd.out]; rfl, by rw [hr.out]; exact OwnV.nil _ _, u.out.setCell (by show w.heap.size ≤ w.heap.size + 2; omega) _⟩
    · skip
      have hok := Lib.hid (show putOK ts ss vs (x, y, z) = true by unfold putOK; rw [hg, hl'.out, hg']; rfl)
      have hm60 : m ≤ 60 := by rw [← hlv.out]; exact (poolOk_iff'.1 hg).1.2
      have hge := Lib.hid (putV_ge vs (x, y, z)); have hle := Lib.hid (putV_len vs (x, y, z))
      by_cases hk1 : (putV vs (x, y, z)).length ≤ vs.length
      · have hk1' := Lib.hid hk1
        have hr := Lib.hid (show putR ts ss vs (x, y, z) = vs by unfold putR; rw [if_pos hok.out, if_pos hk1'.out])
        have hcd := Lib.hid (show putC ts ss vs (x, y, z) = 1 by unfold putC; rw [if_pos hok.out, if_pos hk1'.out])
        go_enter Try.func31, Try.ntmps31
        have tk0 : True := trivial
        have tk1 : True := trivial
        have tk2 : True := trivial
        have tk3 : True := trivial
        go_wp2_with (first
          | (clear tk0; go_at_call 78; refine (specGoodPool_any A n c ts A' n' c' ss V m d vs _ (hh.out.up u.out) (hh'.out.up' u.out) (hvv.out.up u.out) hn hn' hm).mono ?_; rintro e w1 ⟨rfl, b1⟩; rw [hg]; replace u := Lib.hid (u.out.trans (b1.mono u.out.size)); replace q1 := Lib.hid (rowIs_below q1.out b1 q1.out.lt); replace q2 := Lib.hid (rowIs_below q2.out b1 q2.out.lt); replace qR := Lib.hid (rowIs_below qR.out b1 qR.out.lt); clear b1 hc1 hd0 hd1 hd2; have hc1 := q1.out.cell (i := 0) (by omega); have hd0 := q2.out.cell (i := 0) (by omega); have hd1 := q2.out.cell (i := 1) (by omega); have hd2 := q2.out.cell (i := 2) (by omega); simp only [Nat.reduceEqDiff, if_true, if_false, Nat.one_ne_zero] at hd0 hd1 hd2; have hcR := qR.out.cell (i := 0) (by omega); have hfR := qR.out.frozen 0)
          | (clear tk1; go_at_call 79; refine (l6Vote_any A n c ts A' n' c' x y z _ (hh.out.up u.out) hn hn').mono ?_; rintro e w1 ⟨rfl, b1⟩; rw [hg']; replace u := Lib.hid (u.out.trans (b1.mono u.out.size)); replace q1 := Lib.hid (rowIs_below q1.out b1 q1.out.lt); replace q2 := Lib.hid (rowIs_below q2.out b1 q2.out.lt); replace qR := Lib.hid (rowIs_below qR.out b1 qR.out.lt); clear b1 hc1 hd0 hd1 hd2 hcR hfR; have hc1 := q1.out.cell (i := 0) (by omega); have hd0 := q2.out.cell (i := 0) (by omega); have hd1 := q2.out.cell (i := 1) (by omega); have hd2 := q2.out.cell (i := 2) (by omega); simp only [Nat.reduceEqDiff, if_true, if_false, Nat.one_ne_zero] at hd0 hd1 hd2; have hcR := qR.out.cell (i := 0) (by omega); have hfR := qR.out.frozen 0)
          | (clear tk2
             go_at_call 80
             refine (l6Put_any V m d vs x y z _ (hvv.out.up u.out) hm hcap hnil'.out).mono ?_
             rintro e w2 ⟨A2, n2, c2, rfl, v2, cap2, nil2, b2⟩
             have z2 := Lib.hid v2
             have y2 := Lib.hid nil2
             replace u := Lib.hid (u.out.trans (b2.mono u.out.size))
             replace q1 := Lib.hid (rowIs_below q1.out b2 q1.out.lt)
             replace q2 := Lib.hid (rowIs_below q2.out b2 q2.out.lt)
             replace qR := Lib.hid (rowIs_below qR.out b2 qR.out.lt)
             have hcl := Lib.hid (cells_of_votes hvv.out u.out)
             have s0 := Lib.hid (World.ownsRow_made (base := w2.heap.size) (e := 53) (size := 3) w2 #[] 0 (Nat.le_refl _) (by decide) rfl)
             have u0 := Lib.hid (bx_below w2 (.cells #[] 53))
             have hlen2 := Lib.hid v2.1
             have hszW := Lib.hid (show w.heap.size + 3 ≤ w2.heap.size from qR.out.lt)
             clear v2 nil2 b2 hc1 hd0 hd1 hd2 hcR hfR
             have hc1 := q1.out.cell (i := 0) (by omega)
             have hd0 := q2.out.cell (i := 0) (by omega)
             have hd1 := q2.out.cell (i := 1) (by omega)
             have hd2 := q2.out.cell (i := 2) (by omega)
             simp only [Nat.reduceEqDiff, if_true, if_false, Nat.one_ne_zero] at hd0 hd1 hd2
             have hcR := qR.out.cell (i := 0) (by omega)
             have hfR := qR.out.frozen 0
             have hc1a := (rowIs_below q1.out u0.out q1.out.lt).cell (i := 0) (by omega)
             obtain rfl : m = n2 := by have a1 := hk1'.out; have a2 := hge.out; have a3 := hlen2.out; have a4 := hlv.out; omega)
          | (clear tk3
             at_builtin
             refine appendSlV _ rfl (.tmp 30) (.tmp 32) 27 rfl w2.heap.size Try.underlying27 _ [] rfl s0.out V m d vs hlv.out rfl hnil'.out (fun ad e t ht => hcl.out ad e t ht _ u0.out) (by simp; omega) (by simp) ?_
             intro v1 w3 o1 g1 a1
             have f1 : Below w2.heap.size w2 w3 := (((Below.refl w2.heap.size w2).alloc (Nat.le_refl _) (.cells #[] 53)).grown g1 (by simp) (fun q e => by cases e; exact Nat.le_refl _))
             rw [List.nil_append] at o1
             obtain ⟨A3, c3, e3, p3⟩ := OwnV.of_owns o1
             rw [hlv.out] at e3 p3
             subst e3
             have kk := bx_below w3 (.cells #[.slice A3 m c3] 29)
             have fs : w2.heap.size ≤ w3.heap.size := f1.size
             have x1 := Lib.hid (bx_row w3 (.slice A3 m c3) 29)
             have hx1 := x1.out.cell (i := 0) (by omega)
             have ff := f1.trans (kk.mono fs)
             have p3' := Lib.hid (p3.below kk)
             replace u := Lib.hid (u.out.trans (ff.mono u.out.size))
             replace q1 := Lib.hid (rowIs_below q1.out ff q1.out.lt)
             replace q2 := Lib.hid (rowIs_below q2.out ff q2.out.lt)
             replace qR := Lib.hid (rowIs_below qR.out ff qR.out.lt)
             have z3 := Lib.hid (z2.out.up ff)
             clear o1 g1 a1 p3 kk f1 hcl s0 u0 z2 hc1 hc1a hd0 hd1 hd2 hcR hfR
             have hc1 := q1.out.cell (i := 0) (by omega)
             have hd0 := q2.out.cell (i := 0) (by omega)
             have hd1 := q2.out.cell (i := 1) (by omega)
             have hd2 := q2.out.cell (i := 2) (by omega)
             simp only [Nat.reduceEqDiff, if_true, if_false, Nat.one_ne_zero] at hd0 hd1 hd2
             have hcR := qR.out.cell (i := 0) (by omega)
             have hfR := qR.out.frozen 0))
        refine bodyPost_ret (results_row3 rfl _ _ (w.heap.size + 2) 29 #[.slice A3 m c3] (0, 0) _ rfl (pl_one_set qR.out _) Try.underlying29 rfl (by kernel_rfl)) rfl ?_
        exact ⟨A3, m, c3, by rw [hok.out, hcd.out]; rfl, by rw [hr.out]; exact (p3'.out.setBox (by have a5 := qR.out.lt; have a6 := hszW.out; omega) _).fewer (by have a6 := hszW.out; omega), u.out.setCell (by show w.heap.size ≤ w.heap.size + 2; omega) _⟩
      · by_cases hk2 : (putV vs (x, y, z)).length ≤ 60
        · have hk1' := Lib.hid hk1; have hk2' := Lib.hid hk2
          have hr := Lib.hid (show putR ts ss vs (x, y, z) = putV vs (x, y, z) by unfold putR; rw [if_pos hok.out, if_neg hk1'.out, if_pos hk2'.out])
          have hcd := Lib.hid (show putC ts ss vs (x, y, z) = 0 by unfold putC; rw [if_pos hok.out, if_neg hk1'.out, if_pos hk2'.out])
          go_enter Try.func31, Try.ntmps31
          have tk0 : True := trivial
          have tk1 : True := trivial
          have tk2 : True := trivial
          have tk3 : True := trivial
          have tk4 : True := trivial
          go_wp2_with (first
            | (clear tk0; go_at_call 78; refine (specGoodPool_any A n c ts A' n' c' ss V m d vs _ (hh.out.up u.out) (hh'.out.up' u.out) (hvv.out.up u.out) hn hn' hm).mono ?_; rintro e w1 ⟨rfl, b1⟩; rw [hg]; replace u := Lib.hid (u.out.trans (b1.mono u.out.size)); replace q1 := Lib.hid (rowIs_below q1.out b1 q1.out.lt); replace q2 := Lib.hid (rowIs_below q2.out b1 q2.out.lt); replace qR := Lib.hid (rowIs_below qR.out b1 qR.out.lt); clear b1 hc1 hd0 hd1 hd2; have hc1 := q1.out.cell (i := 0) (by omega); have hd0 := q2.out.cell (i := 0) (by omega); have hd1 := q2.out.cell (i := 1) (by omega); have hd2 := q2.out.cell (i := 2) (by omega); simp only [Nat.reduceEqDiff, if_true, if_false, Nat.one_ne_zero] at hd0 hd1 hd2; have hcR := qR.out.cell (i := 0) (by omega); have hfR := qR.out.frozen 0)
            | (clear tk1; go_at_call 79; refine (l6Vote_any A n c ts A' n' c' x y z _ (hh.out.up u.out) hn hn').mono ?_; rintro e w1 ⟨rfl, b1⟩; rw [hg']; replace u := Lib.hid (u.out.trans (b1.mono u.out.size)); replace q1 := Lib.hid (rowIs_below q1.out b1 q1.out.lt); replace q2 := Lib.hid (rowIs_below q2.out b1 q2.out.lt); replace qR := Lib.hid (rowIs_below qR.out b1 qR.out.lt); clear b1 hc1 hd0 hd1 hd2 hcR hfR; have hc1 := q1.out.cell (i := 0) (by omega); have hd0 := q2.out.cell (i := 0) (by omega); have hd1 := q2.out.cell (i := 1) (by omega); have hd2 := q2.out.cell (i := 2) (by omega); simp only [Nat.reduceEqDiff, if_true, if_false, Nat.one_ne_zero] at hd0 hd1 hd2; have hcR := qR.out.cell (i := 0) (by omega); have hfR := qR.out.frozen 0)
            | (clear tk2
               go_at_call 80
               refine (l6Put_any V m d vs x y z _ (hvv.out.up u.out) hm hcap hnil'.out).mono ?_
               rintro e w2 ⟨A2, n2, c2, rfl, v2, cap2, nil2, b2⟩
               have z2 := Lib.hid v2
               have y2 := Lib.hid nil2
               replace u := Lib.hid (u.out.trans (b2.mono u.out.size))
               replace q1 := Lib.hid (rowIs_below q1.out b2 q1.out.lt)
               replace q2 := Lib.hid (rowIs_below q2.out b2 q2.out.lt)
               replace qR := Lib.hid (rowIs_below qR.out b2 qR.out.lt)
               have hcl := Lib.hid (cells_of_votes hvv.out u.out)
               have s0 := Lib.hid (World.ownsRow_made (base := w2.heap.size) (e := 53) (size := 3) w2 #[] 0 (Nat.le_refl _) (by decide) rfl)
               have u0 := Lib.hid (bx_below w2 (.cells #[] 53))
               have hlen2 := Lib.hid v2.1
               have hszW := Lib.hid (show w.heap.size + 3 ≤ w2.heap.size from qR.out.lt)
               clear v2 nil2 b2 hc1 hd0 hd1 hd2 hcR hfR
               have hc1 := q1.out.cell (i := 0) (by omega)
               have hd0 := q2.out.cell (i := 0) (by omega)
               have hd1 := q2.out.cell (i := 1) (by omega)
               have hd2 := q2.out.cell (i := 2) (by omega)
               simp only [Nat.reduceEqDiff, if_true, if_false, Nat.one_ne_zero] at hd0 hd1 hd2
               have hcR := qR.out.cell (i := 0) (by omega)
               have hfR := qR.out.frozen 0
               have hc1a := (rowIs_below q1.out u0.out q1.out.lt).cell (i := 0) (by omega)
               have hn2 : m < n2 := by have a1 := hk1'.out; have a3 := hlen2.out; have a4 := hlv.out; omega
               have hn60 : n2 ≤ 60 := by have a1 := hk2'.out; have a3 := hlen2.out; omega)
            | (clear tk3
               at_builtin
               refine appendSlV _ rfl (.tmp 30) (.tmp 32) 27 rfl w2.heap.size Try.underlying27 _ [] rfl s0.out V m d vs hlv.out rfl hnil'.out (fun ad e t ht => hcl.out ad e t ht _ u0.out) (by simp; omega) (by simp) ?_
               intro v1 w3 o1 g1 a1
               have f1 : Below w2.heap.size w2 w3 := (((Below.refl w2.heap.size w2).alloc (Nat.le_refl _) (.cells #[] 53)).grown g1 (by simp) (fun q e => by cases e; exact Nat.le_refl _))
               rw [List.nil_append] at o1
               obtain ⟨A3, c3, e3, p3⟩ := OwnV.of_owns o1
               rw [hlv.out] at e3 p3
               subst e3
               have kk := bx_below w3 (.cells #[.slice A3 m c3] 29)
               have fs : w2.heap.size ≤ w3.heap.size := f1.size
               have x1 := Lib.hid (bx_row w3 (.slice A3 m c3) 29)
               have hx1 := x1.out.cell (i := 0) (by omega)
               have ff := f1.trans (kk.mono fs)
               have p3' := Lib.hid (p3.below kk)
               replace u := Lib.hid (u.out.trans (ff.mono u.out.size))
               replace q1 := Lib.hid (rowIs_below q1.out ff q1.out.lt)
               replace q2 := Lib.hid (rowIs_below q2.out ff q2.out.lt)
               replace qR := Lib.hid (rowIs_below qR.out ff qR.out.lt)
               have z3 := Lib.hid (z2.out.up ff)
               have hs3 : w3.heap.size + 1 = (w3.alloc (.cells #[.slice A3 m c3] 29)).heap.size := by simp
               generalize hW4 : w3.alloc (.cells #[.slice A3 m c3] 29) = w4 at *
               have hcl4 := Lib.hid (cells_of_votes z3.out (Below.refl _ w4))
               have s4 := Lib.hid (World.ownsRow_made (base := w4.heap.size) (e := 53) (size := 3) w4 #[] 0 (Nat.le_refl _) (by decide) rfl)
               have u4 := Lib.hid (bx_below w4 (.cells #[] 53))
               have hsz5 := Lib.hid (show w.heap.size + 3 ≤ w4.heap.size by have := hszW.out; omega)
               clear o1 g1 a1 p3 kk f1 hcl s0 u0 z2 hc1 hc1a hd0 hd1 hd2 hcR hfR
               have hc1 := q1.out.cell (i := 0) (by omega)
               have hd0 := q2.out.cell (i := 0) (by omega)
               have hd1 := q2.out.cell (i := 1) (by omega)
               have hd2 := q2.out.cell (i := 2) (by omega)
               simp only [Nat.reduceEqDiff, if_true, if_false, Nat.one_ne_zero] at hd0 hd1 hd2
               have hcR := qR.out.cell (i := 0) (by omega)
               have hfR := qR.out.frozen 0)
            | (clear tk4
               at_builtin
               refine appendSlV _ rfl (.tmp 48) (.tmp 49) 27 rfl w4.heap.size Try.underlying27 _ [] rfl s4.out A2 n2 c2 (putV vs (x, y, z)) hlen2.out rfl y2.out (fun ad e t ht => hcl4.out ad e t ht _ u4.out) (by simp; omega) (by simp) ?_
               intro v1 w5 o1 g1 a1
               have f1 : Below w4.heap.size w4 w5 := (((Below.refl w4.heap.size w4).alloc (Nat.le_refl _) (.cells #[] 53)).grown g1 (by simp) (fun q e => by cases e; exact Nat.le_refl _))
               rw [List.nil_append] at o1
               obtain ⟨A5, c5, e5, p5⟩ := OwnV.of_owns o1
               rw [hlen2.out] at e5 p5
               subst e5
               have p5' := Lib.hid p5
               replace u := Lib.hid (u.out.trans (f1.mono u.out.size))
               replace q1 := Lib.hid (rowIs_below q1.out f1 q1.out.lt)
               replace q2 := Lib.hid (rowIs_below q2.out f1 q2.out.lt)
               replace qR := Lib.hid (rowIs_below qR.out f1 qR.out.lt)
               clear o1 g1 a1 p5 f1 hcl4 s4 u4 hc1 hd0 hd1 hd2 hcR hfR hx1
               have hc1 := q1.out.cell (i := 0) (by omega)
               have hd0 := q2.out.cell (i := 0) (by omega)
               have hd1 := q2.out.cell (i := 1) (by omega)
               have hd2 := q2.out.cell (i := 2) (by omega)
               simp only [Nat.reduceEqDiff, if_true, if_false, Nat.one_ne_zero] at hd0 hd1 hd2
               have hcR := qR.out.cell (i := 0) (by omega)
               have hfR := qR.out.frozen 0))
          refine bodyPost_ret (results_row3 rfl _ _ (w.heap.size + 2) 29 #[.slice A5 n2 c5] (0, 0) _ rfl (pl_one_set qR.out _) Try.underlying29 rfl (by kernel_rfl)) rfl ?_
          exact ⟨A5, n2, c5, by rw [hok.out, hcd.out]; rfl, by rw [hr.out]; exact (p5'.out.setBox (by have a5 := hsz5.out; omega) _).fewer (by have a6 := hsz5.out; omega), u.out.setCell (by show w.heap.size ≤ w.heap.size + 2; omega) _⟩
        · have hk1' := Lib.hid hk1; have hk2' := Lib.hid hk2
          have hr := Lib.hid (show putR ts ss vs (x, y, z) = vs by unfold putR; rw [if_pos hok.out, if_neg hk1'.out, if_neg hk2'.out])
          have hcd := Lib.hid (show putC ts ss vs (x, y, z) = 2 by unfold putC; rw [if_pos hok.out, if_neg hk1'.out, if_neg hk2'.out])
          go_enter Try.func31, Try.ntmps31
          have tk0 : True := trivial
          have tk1 : True := trivial
          have tk2 : True := trivial
          have tk3 : True := trivial
          go_wp2_with (first
            | (clear tk0; go_at_call 78; refine (specGoodPool_any A n c ts A' n' c' ss V m d vs _ (hh.out.up u.out) (hh'.out.up' u.out) (hvv.out.up u.out) hn hn' hm).mono ?_; rintro e w1 ⟨rfl, b1⟩; rw [hg]; replace u := Lib.hid (u.out.trans (b1.mono u.out.size)); replace q1 := Lib.hid (rowIs_below q1.out b1 q1.out.lt); replace q2 := Lib.hid (rowIs_below q2.out b1 q2.out.lt); replace qR := Lib.hid (rowIs_below qR.out b1 qR.out.lt); clear b1 hc1 hd0 hd1 hd2; have hc1 := q1.out.cell (i := 0) (by omega); have hd0 := q2.out.cell (i := 0) (by omega); have hd1 := q2.out.cell (i := 1) (by omega); have hd2 := q2.out.cell (i := 2) (by omega); simp only [Nat.reduceEqDiff, if_true, if_false, Nat.one_ne_zero] at hd0 hd1 hd2; have hcR := qR.out.cell (i := 0) (by omega); have hfR := qR.out.frozen 0)
            | (clear tk1; go_at_call 79; refine (l6Vote_any A n c ts A' n' c' x y z _ (hh.out.up u.out) hn hn').mono ?_; rintro e w1 ⟨rfl, b1⟩; rw [hg']; replace u := Lib.hid (u.out.trans (b1.mono u.out.size)); replace q1 := Lib.hid (rowIs_below q1.out b1 q1.out.lt); replace q2 := Lib.hid (rowIs_below q2.out b1 q2.out.lt); replace qR := Lib.hid (rowIs_below qR.out b1 qR.out.lt); clear b1 hc1 hd0 hd1 hd2 hcR hfR; have hc1 := q1.out.cell (i := 0) (by omega); have hd0 := q2.out.cell (i := 0) (by omega); have hd1 := q2.out.cell (i := 1) (by omega); have hd2 := q2.out.cell (i := 2) (by omega); simp only [Nat.reduceEqDiff, if_true, if_false, Nat.one_ne_zero] at hd0 hd1 hd2; have hcR := qR.out.cell (i := 0) (by omega); have hfR := qR.out.frozen 0)
            | (clear tk2
               go_at_call 80
               refine (l6Put_any V m d vs x y z _ (hvv.out.up u.out) hm hcap hnil'.out).mono ?_
               rintro e w2 ⟨A2, n2, c2, rfl, v2, cap2, nil2, b2⟩
               have z2 := Lib.hid v2
               have y2 := Lib.hid nil2
               replace u := Lib.hid (u.out.trans (b2.mono u.out.size))
               replace q1 := Lib.hid (rowIs_below q1.out b2 q1.out.lt)
               replace q2 := Lib.hid (rowIs_below q2.out b2 q2.out.lt)
               replace qR := Lib.hid (rowIs_below qR.out b2 qR.out.lt)
               have hcl := Lib.hid (cells_of_votes hvv.out u.out)
               have s0 := Lib.hid (World.ownsRow_made (base := w2.heap.size) (e := 53) (size := 3) w2 #[] 0 (Nat.le_refl _) (by decide) rfl)
               have u0 := Lib.hid (bx_below w2 (.cells #[] 53))
               have hlen2 := Lib.hid v2.1
               have hszW := Lib.hid (show w.heap.size + 3 ≤ w2.heap.size from qR.out.lt)
               clear v2 nil2 b2 hc1 hd0 hd1 hd2 hcR hfR
               have hc1 := q1.out.cell (i := 0) (by omega)
               have hd0 := q2.out.cell (i := 0) (by omega)
               have hd1 := q2.out.cell (i := 1) (by omega)
               have hd2 := q2.out.cell (i := 2) (by omega)
               simp only [Nat.reduceEqDiff, if_true, if_false, Nat.one_ne_zero] at hd0 hd1 hd2
               have hcR := qR.out.cell (i := 0) (by omega)
               have hfR := qR.out.frozen 0
               have hc1a := (rowIs_below q1.out u0.out q1.out.lt).cell (i := 0) (by omega)
               have hn2 : m < n2 := by have a1 := hk1'.out; have a3 := hlen2.out; have a4 := hlv.out; omega
               have hn60 : 60 < n2 := by have a1 := hk2'.out; have a3 := hlen2.out; omega)
            | (clear tk3
               at_builtin
               refine appendSlV _ rfl (.tmp 30) (.tmp 32) 27 rfl w2.heap.size Try.underlying27 _ [] rfl s0.out V m d vs hlv.out rfl hnil'.out (fun ad e t ht => hcl.out ad e t ht _ u0.out) (by simp; omega) (by simp) ?_
               intro v1 w3 o1 g1 a1
               have f1 : Below w2.heap.size w2 w3 := (((Below.refl w2.heap.size w2).alloc (Nat.le_refl _) (.cells #[] 53)).grown g1 (by simp) (fun q e => by cases e; exact Nat.le_refl _))
               rw [List.nil_append] at o1
               obtain ⟨A3, c3, e3, p3⟩ := OwnV.of_owns o1
               rw [hlv.out] at e3 p3
               subst e3
               have kk := bx_below w3 (.cells #[.slice A3 m c3] 29)
               have fs : w2.heap.size ≤ w3.heap.size := f1.size
               have x1 := Lib.hid (bx_row w3 (.slice A3 m c3) 29)
               have hx1 := x1.out.cell (i := 0) (by omega)
               have ff := f1.trans (kk.mono fs)
               have p3' := Lib.hid (p3.below kk)
               replace u := Lib.hid (u.out.trans (ff.mono u.out.size))
               replace q1 := Lib.hid (rowIs_below q1.out ff q1.out.lt)
               replace q2 := Lib.hid (rowIs_below q2.out ff q2.out.lt)
               replace qR := Lib.hid (rowIs_below qR.out ff qR.out.lt)
               have z3 := Lib.hid (z2.out.up ff)
               clear o1 g1 a1 p3 kk f1 hcl s0 u0 z2 hc1 hc1a hd0 hd1 hd2 hcR hfR
               have hc1 := q1.out.cell (i := 0) (by omega)
               have hd0 := q2.out.cell (i := 0) (by omega)
               have hd1 := q2.out.cell (i := 1) (by omega)
               have hd2 := q2.out.cell (i := 2) (by omega)
               simp only [Nat.reduceEqDiff, if_true, if_false, Nat.one_ne_zero] at hd0 hd1 hd2
               have hcR := qR.out.cell (i := 0) (by omega)
               have hfR := qR.out.frozen 0))
          refine bodyPost_ret (results_row3 rfl _ _ (w.heap.size + 2) 29 #[.slice A3 m c3] (0, 0) _ rfl (pl_one_set qR.out _) Try.underlying29 rfl (by kernel_rfl)) rfl ?_
          exact ⟨A3, m, c3, by rw [hok.out, hcd.out]; rfl, by rw [hr.out]; exact (p3'.out.setBox (by have a5 := qR.out.lt; have a6 := hszW.out; omega) _).fewer (by have a6 := hszW.out; omega), u.out.setCell (by show w.heap.size ≤ w.heap.size + 2; omega) _⟩
end Go.Proofs.Ytlobjfipefibaaa

/- What is proved here: what the program's PutVote returns. No conditions but lengths. -/
namespace Go.Proofs.Ytlobjfipefibaaa
open Go.RowKit Go.Maps Go.Sort Go.Shelf Go.Lib

theorem one_vote (w : World) (x y z : Int) : VotesAt (w.alloc (.cells #[.int .i64 x, .int .i64 y, .int .i64 z] 53)) (w.alloc (.cells #[.int .i64 x, .int .i64 y, .int .i64 z] 53)).heap.size (some ⟨w.heap.size, 0, none⟩) 1 [(x, y, z)] := by
  refine ⟨rfl, fun k hk => ?_⟩
  obtain rfl : k = 0 := by omega
  exact ⟨w.heap.size, 0, rfl, by simp, by simp [getV], by simp [getV], by simp [getV]⟩
theorem votes_one {ts : List Blk} {ss : List Int} {vs : List Vt} (h : poolOk ts ss vs = true) (v : Vt) : votesOk ts ss [v] = voteOk ts ss.length v := by
  have h1 := (poolOk_iff'.1 h).1.1
  rw [Bool.eq_iff_iff, votesOk_iff']
  exact ⟨fun g => g.2 v (by simp), fun g => ⟨h1, fun u hu => by rw [List.mem_singleton.1 hu]; exact g⟩⟩
theorem votesOk_of_pool {ts : List Blk} {ss : List Int} {vs : List Vt} (h : poolOk ts ss vs = true) : votesOk ts ss vs = true := votesOk_iff'.2 ⟨(poolOk_iff'.1 h).1.1, (poolOk_iff'.1 h).2.1⟩
theorem vD_app (l : List Vt) (v : Vt) : ∀ k, k ≤ l.length → vD (l ++ [v]) k = vD l k := by
  intro k
  induction k with
  | zero => intro _; rfl
  | succ k ih =>
    intro hk
    simp only [vD]
    rw [ih (by omega)]
    have : getV (l ++ [v]) k = getV l k := by unfold getV; rw [List.getElem?_append_left (by omega)]
    rw [this]
theorem vD_snoc (l : List Vt) (v : Vt) : vD (l ++ [v]) (l.length + 1) = (vD l l.length).put (kv v) (.lit (.bool true)) := by
  simp only [vD]
  rw [vD_app l v _ (Nat.le_refl _)]
  have : getV (l ++ [v]) l.length = v := by unfold getV; simp
  rw [this]
set_option maxRecDepth 100000 in
set_option maxHeartbeats 3200000 in
theorem implPutVote_any (A : Option Addr) (n c : Nat) (ts : List Blk) (A' : Option Addr) (n' c' : Nat) (ss : List Int) (V : Option Addr) (m d : Nat) (vs : List Vt) (x y z : Int) (w : World) (h : BlksAt w w.heap.size A n ts) (h' : IntsAt w w.heap.size A' n' ss) (hv : VotesAt w w.heap.size V m vs) (hn : n ≤ 1048576) (hn' : n' ≤ 1048576) (hm : m ≤ 1048576) :
    Calls Try.prog 34 #[.slice A n c, .slice A' n' c', .agg #[.slice V m d], .agg #[.int .i64 x, .int .i64 y, .int .i64 z]] w (RetPut w (putC ts ss vs (x, y, z)) (putOK ts ss vs (x, y, z)) (putR ts ss vs (x, y, z))) := by
  have hlv := Lib.hid hv.1; have hl' := Lib.hid h'.1; have hl := Lib.hid h.1
  have hh := Lib.hid h; have hh' := Lib.hid h'; have hvv := Lib.hid hv; clear h h' hv
  obtain ⟨r1, r2, rR, bW⟩ := bxv_rows w (.slice V m d) (.slice none 0 0) x y z 29 53 29
  have q1 := Lib.hid r1; have q2 := Lib.hid r2
  have qR := Lib.hid rR; have u := Lib.hid bW
  clear bW rR r1 r2
  have hc1 := q1.out.cell (i := 0) (by omega); have hd0 := q2.out.cell (i := 0) (by omega); have hd1 := q2.out.cell (i := 1) (by omega); have hd2 := q2.out.cell (i := 2) (by omega)
  simp only [Nat.reduceEqDiff, if_true, if_false, Nat.one_ne_zero] at hd0 hd1 hd2
  cases hg : poolOk ts ss vs
  · skip
    have hok := Lib.hid (show putOK ts ss vs (x, y, z) = false by unfold putOK; rw [hg]; simp)
    have hr := Lib.hid (show putR ts ss vs (x, y, z) = [] by unfold putR; rw [if_neg (by rw [hok.out]; decide)])
    have hcd := Lib.hid (show putC ts ss vs (x, y, z) = 0 by unfold putC; rw [if_neg (by rw [hok.out]; decide)])
    go_enter Try.func34, Try.ntmps34
    have tk0 : True := trivial
    go_wp2_with (first
      | (clear tk0; go_at_call 81; refine (goodPool_any A n c ts A' n' c' ss V m d vs _ (hh.out.up u.out) (hh'.out.up' u.out) (hvv.out.up u.out) hn hn' hm).mono ?_; rintro e w1 ⟨rfl, b1⟩; rw [hg]; replace u := Lib.hid (u.out.trans (b1.mono u.out.size)); replace q1 := Lib.hid (rowIs_below q1.out b1 q1.out.lt); replace q2 := Lib.hid (rowIs_below q2.out b1 q2.out.lt); replace qR := Lib.hid (rowIs_below qR.out b1 qR.out.lt); clear b1 hc1 hd0 hd1 hd2; have hc1 := q1.out.cell (i := 0) (by omega); have hd0 := q2.out.cell (i := 0) (by omega); have hd1 := q2.out.cell (i := 1) (by omega); have hd2 := q2.out.cell (i := 2) (by omega); simp only [Nat.reduceEqDiff, if_true, if_false, Nat.one_ne_zero] at hd0 hd1 hd2; have hcR := qR.out.cell (i := 0) (by omega); have hfR := qR.out.frozen 0; have tk1 : True := trivial))
    refine bodyPost_ret (results_row3 rfl _ _ (w.heap.size + 2) 29 #[.slice none 0 0] (0, 0) _ rfl (pl_one_set qR.out _) Try.underlying29 rfl (by kernel_rfl)) rfl ?_
    exact ⟨none, 0, 0, by rw [hok.out, hcd.out]; rfl, by rw [hr.out]; exact OwnV.nil _ _, u.out.setCell (by show w.heap.size ≤ w.heap.size + 2; omega) _⟩
  · skip
    have hvo := votes_one hg (x, y, z)
    rw [hl'.out] at hvo
    cases hg' : voteOk ts n' (x, y, z)
    · skip
      have hok := Lib.hid (show putOK ts ss vs (x, y, z) = false by unfold putOK; rw [hg, hl'.out, hg']; simp)
      have hr := Lib.hid (show putR ts ss vs (x, y, z) = [] by unfold putR; rw [if_neg (by rw [hok.out]; decide)])
      have hcd := Lib.hid (show putC ts ss vs (x, y, z) = 0 by unfold putC; rw [if_neg (by rw [hok.out]; decide)])
      rw [hg'] at hvo
      go_enter Try.func34, Try.ntmps34
      have tk0 : True := trivial
      go_wp2_with (first
        | (clear tk0; go_at_call 81; refine (goodPool_any A n c ts A' n' c' ss V m d vs _ (hh.out.up u.out) (hh'.out.up' u.out) (hvv.out.up u.out) hn hn' hm).mono ?_; rintro e w1 ⟨rfl, b1⟩; rw [hg]; replace u := Lib.hid (u.out.trans (b1.mono u.out.size)); replace q1 := Lib.hid (rowIs_below q1.out b1 q1.out.lt); replace q2 := Lib.hid (rowIs_below q2.out b1 q2.out.lt); replace qR := Lib.hid (rowIs_below qR.out b1 qR.out.lt); clear b1 hc1 hd0 hd1 hd2; have hc1 := q1.out.cell (i := 0) (by omega); have hd0 := q2.out.cell (i := 0) (by omega); have hd1 := q2.out.cell (i := 1) (by omega); have hd2 := q2.out.cell (i := 2) (by omega); simp only [Nat.reduceEqDiff, if_true, if_false, Nat.one_ne_zero] at hd0 hd1 hd2; have hcR := qR.out.cell (i := 0) (by omega); have hfR := qR.out.frozen 0; have tk1 : True := trivial)
        | (clear tk1; go_at_call 72; have kk := bx_below w1 (.cells #[.int .i64 x, .int .i64 y, .int .i64 z] 53); have uk := u.out.trans (kk.mono u.out.size); refine (areVotes_any A n c ts A' n' c' ss (some ⟨w1.heap.size, 0, none⟩) 1 1 [(x, y, z)] _ (hh.out.up uk) (hh'.out.up' uk) (one_vote w1 x y z) hn hn' (by omega)).mono ?_; rintro e w2 ⟨rfl, b2⟩; rw [hvo]; have b3 := kk.trans (b2.mono kk.size); clear kk uk b2; replace u := Lib.hid (u.out.trans (b3.mono u.out.size)); replace q1 := Lib.hid (rowIs_below q1.out b3 q1.out.lt); replace q2 := Lib.hid (rowIs_below q2.out b3 q2.out.lt); replace qR := Lib.hid (rowIs_below qR.out b3 qR.out.lt); clear b3 hc1 hd0 hd1 hd2 hcR hfR; have hc1 := q1.out.cell (i := 0) (by omega); have hd0 := q2.out.cell (i := 0) (by omega); have hd1 := q2.out.cell (i := 1) (by omega); have hd2 := q2.out.cell (i := 2) (by omega); simp only [Nat.reduceEqDiff, if_true, if_false, Nat.one_ne_zero] at hd0 hd1 hd2; have hcR := qR.out.cell (i := 0) (by omega); have hfR := qR.out.frozen 0; have tk2 : True := trivial))
      refine bodyPost_ret (results_row3 rfl _ _ (w.heap.size + 2) 29 #[.slice none 0 0] (0, 0) _ rfl (pl_one_set qR.out _) Try.underlying29 rfl (by kernel_rfl)) rfl ?_
      exact ⟨none, 0, 0, by rw [hok.out, hcd.out]; rfl, by rw [hr.out]; exact OwnV.nil _ _, u.out.setCell (by show w.heap.size ≤ w.heap.size + 2; omega) _⟩
    · skip
      rw [hg'] at hvo
      have hok := Lib.hid (show putOK ts ss vs (x, y, z) = true by unfold putOK; rw [hg, hl'.out, hg']; rfl)
      have hm60 : m ≤ 60 := by rw [← hlv.out]; exact (poolOk_iff'.1 hg).1.2
      have hls := (poolOk_iff'.1 hg).2.2
      have hlk := Lib.hid hls
      have hvk := votesOk_of_pool hg
      obtain ⟨hw, hsz, huq⟩ := set_of_ok hvk hl.out hl'.out hlv.out hn hn'
      have hid := setV_id hls
      rw [hid] at hsz huq
      have hsz' := Lib.hid hsz; have huq' := Lib.hid huq; have hww := Lib.hid hw
      have hwv := Lib.hid (wfV_of_ok hg' hn' (by rw [hl.out]; exact hn))
      have hall := Lib.hid (show allV [] vs m = vs by rw [← hlv.out]; exact hid)
      have hat0 := vD_at hwv.out m hw
      rw [hall.out] at hat0
      have hps := Lib.hid (putV_size hls (x, y, z))
      have hset' := Lib.hid (fun W hW => setOf_any V m d vs W hW hm hww.out)
      have hkey := Lib.hid (keyVote hwv.out)
      clear hls hvk hsz huq hw hid
      by_cases hin : (x, y, z) ∈ vs
      · skip
        rw [if_pos hin] at hps
        have hr := Lib.hid (show putR ts ss vs (x, y, z) = vs by unfold putR; rw [if_pos hok.out, if_pos (by have := hps.out; omega)])
        have hcd := Lib.hid (show putC ts ss vs (x, y, z) = 1 by unfold putC; rw [if_pos hok.out, if_pos (by have := hps.out; omega)])
        have hat := Lib.hid (show (vD vs m).atKey (kv (x, y, z)) (.lit (.bool false)) = .lit (.bool true) by rw [hat0, decide_eq_true hin])
        clear hat0
        have hcode := Lib.hid (show (if true = true then (1 : Int) else if Maps.size (vD vs m) = 60 then 2 else 0) = 1 from rfl)
        go_enter Try.func34, Try.ntmps34
        have tk0 : True := trivial
        go_wp2_with (first
          | (clear tk0; go_at_call 81; refine (goodPool_any A n c ts A' n' c' ss V m d vs _ (hh.out.up u.out) (hh'.out.up' u.out) (hvv.out.up u.out) hn hn' hm).mono ?_; rintro e w1 ⟨rfl, b1⟩; rw [hg]; replace u := Lib.hid (u.out.trans (b1.mono u.out.size)); replace q1 := Lib.hid (rowIs_below q1.out b1 q1.out.lt); replace q2 := Lib.hid (rowIs_below q2.out b1 q2.out.lt); replace qR := Lib.hid (rowIs_below qR.out b1 qR.out.lt); clear b1 hc1 hd0 hd1 hd2; have hc1 := q1.out.cell (i := 0) (by omega); have hd0 := q2.out.cell (i := 0) (by omega); have hd1 := q2.out.cell (i := 1) (by omega); have hd2 := q2.out.cell (i := 2) (by omega); simp only [Nat.reduceEqDiff, if_true, if_false, Nat.one_ne_zero] at hd0 hd1 hd2; have hcR := qR.out.cell (i := 0) (by omega); have hfR := qR.out.frozen 0; have tk1 : True := trivial)
          | (clear tk1; go_at_call 72; have kk := bx_below w1 (.cells #[.int .i64 x, .int .i64 y, .int .i64 z] 53); have uk := u.out.trans (kk.mono u.out.size); refine (areVotes_any A n c ts A' n' c' ss (some ⟨w1.heap.size, 0, none⟩) 1 1 [(x, y, z)] _ (hh.out.up uk) (hh'.out.up' uk) (one_vote w1 x y z) hn hn' (by omega)).mono ?_; rintro e w2 ⟨rfl, b2⟩; rw [hvo]; have b3 := kk.trans (b2.mono kk.size); clear kk uk b2; replace u := Lib.hid (u.out.trans (b3.mono u.out.size)); replace q1 := Lib.hid (rowIs_below q1.out b3 q1.out.lt); replace q2 := Lib.hid (rowIs_below q2.out b3 q2.out.lt); replace qR := Lib.hid (rowIs_below qR.out b3 qR.out.lt); clear b3 hc1 hd0 hd1 hd2 hcR hfR; have hc1 := q1.out.cell (i := 0) (by omega); have hd0 := q2.out.cell (i := 0) (by omega); have hd1 := q2.out.cell (i := 1) (by omega); have hd2 := q2.out.cell (i := 2) (by omega); simp only [Nat.reduceEqDiff, if_true, if_false, Nat.one_ne_zero] at hd0 hd1 hd2; have hcR := qR.out.cell (i := 0) (by omega); have hfR := qR.out.frozen 0; have tk2 : True := trivial)
          | (clear tk2; go_at_call 73; refine (hset'.out _ (hvv.out.up u.out)).mono ?_; rintro e w3 ⟨mb, rfl, om, lo, b4⟩; have om' := Lib.hid om; have lo3 := Lib.hid (show w.heap.size + 3 ≤ mb from Nat.le_trans qR.out.lt lo); clear om lo; replace u := Lib.hid (u.out.trans (b4.mono u.out.size)); replace q1 := Lib.hid (rowIs_below q1.out b4 q1.out.lt); replace q2 := Lib.hid (rowIs_below q2.out b4 q2.out.lt); replace qR := Lib.hid (rowIs_below qR.out b4 qR.out.lt); clear b4 hc1 hd0 hd1 hd2 hcR hfR; have hc1 := q1.out.cell (i := 0) (by omega); have hd0 := q2.out.cell (i := 0) (by omega); have hd1 := q2.out.cell (i := 1) (by omega); have hd2 := q2.out.cell (i := 2) (by omega); simp only [Nat.reduceEqDiff, if_true, if_false, Nat.one_ne_zero] at hd0 hd1 hd2; have hcR := qR.out.cell (i := 0) (by omega); have hfR := qR.out.frozen 0; have tk3 : True := trivial)
          | (clear tk3; go_at_call 82; refine (codeOf_any mb m (vD vs m) x y z _ om'.out hwv.out _ hat.out).mono ?_; rw [if_pos rfl]; rintro e w4 ⟨rfl, b5⟩; replace om' := Lib.hid (om'.out.kept (row := none) ⟨b5.os, b5.tape, b5.output, b5.size, fun k hk _ => b5.block k hk⟩ (by simp)); replace u := Lib.hid (u.out.trans (b5.mono u.out.size)); replace q1 := Lib.hid (rowIs_below q1.out b5 q1.out.lt); replace q2 := Lib.hid (rowIs_below q2.out b5 q2.out.lt); replace qR := Lib.hid (rowIs_below qR.out b5 qR.out.lt); clear b5 hc1 hd0 hd1 hd2 hcR hfR; have hc1 := q1.out.cell (i := 0) (by omega); have hd0 := q2.out.cell (i := 0) (by omega); have hd1 := q2.out.cell (i := 1) (by omega); have hd2 := q2.out.cell (i := 2) (by omega); simp only [Nat.reduceEqDiff, if_true, if_false, Nat.one_ne_zero] at hd0 hd1 hd2; have hcR := qR.out.cell (i := 0) (by omega); have hfR := qR.out.frozen 0; have tk4 : True := trivial)
          | (go_at_call 74; refine (inOrder_any mb m (vD vs m) _ om'.out (by omega)).mono ?_; rintro e w6 ⟨us, hus, A3, n3, c3, rfl, o3, b7⟩; rw [huq'.out us hus] at o3; have o4 := Lib.hid o3; have lR := Lib.hid qR.out.lt; clear o3 hus; replace u := Lib.hid (u.out.trans (b7.mono u.out.size)); replace q1 := Lib.hid (rowIs_below q1.out b7 q1.out.lt); replace q2 := Lib.hid (rowIs_below q2.out b7 q2.out.lt); replace qR := Lib.hid (rowIs_below qR.out b7 qR.out.lt); clear b7 hc1 hd0 hd1 hd2 hcR hfR; have hc1 := q1.out.cell (i := 0) (by omega); have hd0 := q2.out.cell (i := 0) (by omega); have hd1 := q2.out.cell (i := 1) (by omega); have hd2 := q2.out.cell (i := 2) (by omega); simp only [Nat.reduceEqDiff, if_true, if_false, Nat.one_ne_zero] at hd0 hd1 hd2; have hcR := qR.out.cell (i := 0) (by omega); have hfR := qR.out.frozen 0))
        refine bodyPost_ret (results_row3 rfl _ _ (w.heap.size + 2) 29 #[.slice A3 n3 c3] (0, 0) _ rfl (pl_one_set qR.out _) Try.underlying29 rfl (by kernel_rfl)) rfl ?_
        exact ⟨A3, n3, c3, by rw [hok.out, hcd.out]; rfl, by rw [hr.out]; exact (o4.out.setBox lR.out _).fewer (by have := lR.out; omega), u.out.setCell (by show w.heap.size ≤ w.heap.size + 2; omega) _⟩
      · skip
        rw [if_neg hin] at hps
        by_cases hfull : vs.length = 60
        · skip
          have hr := Lib.hid (show putR ts ss vs (x, y, z) = vs by unfold putR; rw [if_pos hok.out, if_neg (by have := hps.out; omega), if_neg (by have := hps.out; omega)])
          have hcd := Lib.hid (show putC ts ss vs (x, y, z) = 2 by unfold putC; rw [if_pos hok.out, if_neg (by have := hps.out; omega), if_neg (by have := hps.out; omega)])
          have hat := Lib.hid (show (vD vs m).atKey (kv (x, y, z)) (.lit (.bool false)) = .lit (.bool false) by rw [hat0, decide_eq_false hin])
          clear hat0
          have hcode := Lib.hid (show (if false = true then (1 : Int) else if Maps.size (vD vs m) = 60 then 2 else 0) = 2 by rw [if_neg (by decide), if_pos (by rw [hsz'.out]; exact hfull)])
          go_enter Try.func34, Try.ntmps34
          have tk0 : True := trivial
          go_wp2_with (first
            | (clear tk0; go_at_call 81; refine (goodPool_any A n c ts A' n' c' ss V m d vs _ (hh.out.up u.out) (hh'.out.up' u.out) (hvv.out.up u.out) hn hn' hm).mono ?_; rintro e w1 ⟨rfl, b1⟩; rw [hg]; replace u := Lib.hid (u.out.trans (b1.mono u.out.size)); replace q1 := Lib.hid (rowIs_below q1.out b1 q1.out.lt); replace q2 := Lib.hid (rowIs_below q2.out b1 q2.out.lt); replace qR := Lib.hid (rowIs_below qR.out b1 qR.out.lt); clear b1 hc1 hd0 hd1 hd2; have hc1 := q1.out.cell (i := 0) (by omega); have hd0 := q2.out.cell (i := 0) (by omega); have hd1 := q2.out.cell (i := 1) (by omega); have hd2 := q2.out.cell (i := 2) (by omega); simp only [Nat.reduceEqDiff, if_true, if_false, Nat.one_ne_zero] at hd0 hd1 hd2; have hcR := qR.out.cell (i := 0) (by omega); have hfR := qR.out.frozen 0; have tk1 : True := trivial)
            | (clear tk1; go_at_call 72; have kk := bx_below w1 (.cells #[.int .i64 x, .int .i64 y, .int .i64 z] 53); have uk := u.out.trans (kk.mono u.out.size); refine (areVotes_any A n c ts A' n' c' ss (some ⟨w1.heap.size, 0, none⟩) 1 1 [(x, y, z)] _ (hh.out.up uk) (hh'.out.up' uk) (one_vote w1 x y z) hn hn' (by omega)).mono ?_; rintro e w2 ⟨rfl, b2⟩; rw [hvo]; have b3 := kk.trans (b2.mono kk.size); clear kk uk b2; replace u := Lib.hid (u.out.trans (b3.mono u.out.size)); replace q1 := Lib.hid (rowIs_below q1.out b3 q1.out.lt); replace q2 := Lib.hid (rowIs_below q2.out b3 q2.out.lt); replace qR := Lib.hid (rowIs_below qR.out b3 qR.out.lt); clear b3 hc1 hd0 hd1 hd2 hcR hfR; have hc1 := q1.out.cell (i := 0) (by omega); have hd0 := q2.out.cell (i := 0) (by omega); have hd1 := q2.out.cell (i := 1) (by omega); have hd2 := q2.out.cell (i := 2) (by omega); simp only [Nat.reduceEqDiff, if_true, if_false, Nat.one_ne_zero] at hd0 hd1 hd2; have hcR := qR.out.cell (i := 0) (by omega); have hfR := qR.out.frozen 0; have tk2 : True := trivial)
            | (clear tk2; go_at_call 73; refine (hset'.out _ (hvv.out.up u.out)).mono ?_; rintro e w3 ⟨mb, rfl, om, lo, b4⟩; have om' := Lib.hid om; have lo3 := Lib.hid (show w.heap.size + 3 ≤ mb from Nat.le_trans qR.out.lt lo); clear om lo; replace u := Lib.hid (u.out.trans (b4.mono u.out.size)); replace q1 := Lib.hid (rowIs_below q1.out b4 q1.out.lt); replace q2 := Lib.hid (rowIs_below q2.out b4 q2.out.lt); replace qR := Lib.hid (rowIs_below qR.out b4 qR.out.lt); clear b4 hc1 hd0 hd1 hd2 hcR hfR; have hc1 := q1.out.cell (i := 0) (by omega); have hd0 := q2.out.cell (i := 0) (by omega); have hd1 := q2.out.cell (i := 1) (by omega); have hd2 := q2.out.cell (i := 2) (by omega); simp only [Nat.reduceEqDiff, if_true, if_false, Nat.one_ne_zero] at hd0 hd1 hd2; have hcR := qR.out.cell (i := 0) (by omega); have hfR := qR.out.frozen 0; have tk3 : True := trivial)
            | (clear tk3; go_at_call 82; refine (codeOf_any mb m (vD vs m) x y z _ om'.out hwv.out _ hat.out).mono ?_; rw [hcode.out]; rintro e w4 ⟨rfl, b5⟩; replace om' := Lib.hid (om'.out.kept (row := none) ⟨b5.os, b5.tape, b5.output, b5.size, fun k hk _ => b5.block k hk⟩ (by simp)); replace u := Lib.hid (u.out.trans (b5.mono u.out.size)); replace q1 := Lib.hid (rowIs_below q1.out b5 q1.out.lt); replace q2 := Lib.hid (rowIs_below q2.out b5 q2.out.lt); replace qR := Lib.hid (rowIs_below qR.out b5 qR.out.lt); clear b5 hc1 hd0 hd1 hd2 hcR hfR; have hc1 := q1.out.cell (i := 0) (by omega); have hd0 := q2.out.cell (i := 0) (by omega); have hd1 := q2.out.cell (i := 1) (by omega); have hd2 := q2.out.cell (i := 2) (by omega); simp only [Nat.reduceEqDiff, if_true, if_false, Nat.one_ne_zero] at hd0 hd1 hd2; have hcR := qR.out.cell (i := 0) (by omega); have hfR := qR.out.frozen 0; have tk4 : True := trivial)
            | (go_at_call 74; refine (inOrder_any mb m (vD vs m) _ om'.out (by omega)).mono ?_; rintro e w6 ⟨us, hus, A3, n3, c3, rfl, o3, b7⟩; rw [huq'.out us hus] at o3; have o4 := Lib.hid o3; have lR := Lib.hid qR.out.lt; clear o3 hus; replace u := Lib.hid (u.out.trans (b7.mono u.out.size)); replace q1 := Lib.hid (rowIs_below q1.out b7 q1.out.lt); replace q2 := Lib.hid (rowIs_below q2.out b7 q2.out.lt); replace qR := Lib.hid (rowIs_below qR.out b7 qR.out.lt); clear b7 hc1 hd0 hd1 hd2 hcR hfR; have hc1 := q1.out.cell (i := 0) (by omega); have hd0 := q2.out.cell (i := 0) (by omega); have hd1 := q2.out.cell (i := 1) (by omega); have hd2 := q2.out.cell (i := 2) (by omega); simp only [Nat.reduceEqDiff, if_true, if_false, Nat.one_ne_zero] at hd0 hd1 hd2; have hcR := qR.out.cell (i := 0) (by omega); have hfR := qR.out.frozen 0))
          refine bodyPost_ret (results_row3 rfl _ _ (w.heap.size + 2) 29 #[.slice A3 n3 c3] (0, 0) _ rfl (pl_one_set qR.out _) Try.underlying29 rfl (by kernel_rfl)) rfl ?_
          exact ⟨A3, n3, c3, by rw [hok.out, hcd.out]; rfl, by rw [hr.out]; exact (o4.out.setBox lR.out _).fewer (by have := lR.out; omega), u.out.setCell (by show w.heap.size ≤ w.heap.size + 2; omega) _⟩
        · skip
          have hlt60 : vs.length < 60 := by rw [hlv.out] at hfull ⊢; omega
          have hr := Lib.hid (show putR ts ss vs (x, y, z) = putV vs (x, y, z) by unfold putR; rw [if_pos hok.out, if_neg (by have := hps.out; omega), if_pos (by have := hps.out; omega)])
          have hcd := Lib.hid (show putC ts ss vs (x, y, z) = 0 by unfold putC; rw [if_pos hok.out, if_neg (by have := hps.out; omega), if_pos (by have := hps.out; omega)])
          have hput := Lib.hid (show ∀ us : List Vt, (us.Nodup ∧ (∀ v ∈ us, wfV v) ∧ ∀ v, wfV v → (v ∈ us ↔ Maps.has ((vD vs m).put (kv (x, y, z)) (.lit (.bool true))) (kv v) = true)) → sortV us = putV vs (x, y, z) from fun us hu => by
            have e1 : (vD vs m).put (kv (x, y, z)) (.lit (.bool true)) = vD (vs ++ [(x, y, z)]) (m + 1) := by rw [← hlv.out, vD_snoc]
            rw [e1] at hu
            have hvk2 : votesOk ts ss (vs ++ [(x, y, z)]) = true := votesOk_iff'.2 ⟨(poolOk_iff'.1 hg).1.1, fun u hu => (List.mem_append.1 hu).elim ((poolOk_iff'.1 hg).2.1 u) (fun e => by rw [List.mem_singleton.1 e, hl'.out]; exact hg')⟩
            rw [(set_of_ok hvk2 hl.out hl'.out (by rw [List.length_append, hlv.out]; rfl) hn hn').2.2 us hu, setV_put hlk.out])
          have hat := Lib.hid (show (vD vs m).atKey (kv (x, y, z)) (.lit (.bool false)) = .lit (.bool false) by rw [hat0, decide_eq_false hin])
          clear hat0
          have hcode := Lib.hid (show (if false = true then (1 : Int) else if Maps.size (vD vs m) = 60 then 2 else 0) = 0 by rw [if_neg (by decide), if_neg (by rw [hsz'.out]; exact hfull)])
          go_enter Try.func34, Try.ntmps34
          have tk0 : True := trivial
          go_wp2_with (first
            | (clear tk0; go_at_call 81; refine (goodPool_any A n c ts A' n' c' ss V m d vs _ (hh.out.up u.out) (hh'.out.up' u.out) (hvv.out.up u.out) hn hn' hm).mono ?_; rintro e w1 ⟨rfl, b1⟩; rw [hg]; replace u := Lib.hid (u.out.trans (b1.mono u.out.size)); replace q1 := Lib.hid (rowIs_below q1.out b1 q1.out.lt); replace q2 := Lib.hid (rowIs_below q2.out b1 q2.out.lt); replace qR := Lib.hid (rowIs_below qR.out b1 qR.out.lt); clear b1 hc1 hd0 hd1 hd2; have hc1 := q1.out.cell (i := 0) (by omega); have hd0 := q2.out.cell (i := 0) (by omega); have hd1 := q2.out.cell (i := 1) (by omega); have hd2 := q2.out.cell (i := 2) (by omega); simp only [Nat.reduceEqDiff, if_true, if_false, Nat.one_ne_zero] at hd0 hd1 hd2; have hcR := qR.out.cell (i := 0) (by omega); have hfR := qR.out.frozen 0; have tk1 : True := trivial)
            | (clear tk1; go_at_call 72; have kk := bx_below w1 (.cells #[.int .i64 x, .int .i64 y, .int .i64 z] 53); have uk := u.out.trans (kk.mono u.out.size); refine (areVotes_any A n c ts A' n' c' ss (some ⟨w1.heap.size, 0, none⟩) 1 1 [(x, y, z)] _ (hh.out.up uk) (hh'.out.up' uk) (one_vote w1 x y z) hn hn' (by omega)).mono ?_; rintro e w2 ⟨rfl, b2⟩; rw [hvo]; have b3 := kk.trans (b2.mono kk.size); clear kk uk b2; replace u := Lib.hid (u.out.trans (b3.mono u.out.size)); replace q1 := Lib.hid (rowIs_below q1.out b3 q1.out.lt); replace q2 := Lib.hid (rowIs_below q2.out b3 q2.out.lt); replace qR := Lib.hid (rowIs_below qR.out b3 qR.out.lt); clear b3 hc1 hd0 hd1 hd2 hcR hfR; have hc1 := q1.out.cell (i := 0) (by omega); have hd0 := q2.out.cell (i := 0) (by omega); have hd1 := q2.out.cell (i := 1) (by omega); have hd2 := q2.out.cell (i := 2) (by omega); simp only [Nat.reduceEqDiff, if_true, if_false, Nat.one_ne_zero] at hd0 hd1 hd2; have hcR := qR.out.cell (i := 0) (by omega); have hfR := qR.out.frozen 0; have tk2 : True := trivial)
            | (clear tk2; go_at_call 73; refine (hset'.out _ (hvv.out.up u.out)).mono ?_; rintro e w3 ⟨mb, rfl, om, lo, b4⟩; have om' := Lib.hid om; have lo3 := Lib.hid (show w.heap.size + 3 ≤ mb from Nat.le_trans qR.out.lt lo); clear om lo; replace u := Lib.hid (u.out.trans (b4.mono u.out.size)); replace q1 := Lib.hid (rowIs_below q1.out b4 q1.out.lt); replace q2 := Lib.hid (rowIs_below q2.out b4 q2.out.lt); replace qR := Lib.hid (rowIs_below qR.out b4 qR.out.lt); clear b4 hc1 hd0 hd1 hd2 hcR hfR; have hc1 := q1.out.cell (i := 0) (by omega); have hd0 := q2.out.cell (i := 0) (by omega); have hd1 := q2.out.cell (i := 1) (by omega); have hd2 := q2.out.cell (i := 2) (by omega); simp only [Nat.reduceEqDiff, if_true, if_false, Nat.one_ne_zero] at hd0 hd1 hd2; have hcR := qR.out.cell (i := 0) (by omega); have hfR := qR.out.frozen 0; have tk3 : True := trivial)
            | (clear tk3; go_at_call 82; refine (codeOf_any mb m (vD vs m) x y z _ om'.out hwv.out _ hat.out).mono ?_; rw [hcode.out]; rintro e w4 ⟨rfl, b5⟩; replace om' := Lib.hid (om'.out.kept (row := none) ⟨b5.os, b5.tape, b5.output, b5.size, fun k hk _ => b5.block k hk⟩ (by simp)); replace u := Lib.hid (u.out.trans (b5.mono u.out.size)); replace q1 := Lib.hid (rowIs_below q1.out b5 q1.out.lt); replace q2 := Lib.hid (rowIs_below q2.out b5 q2.out.lt); replace qR := Lib.hid (rowIs_below qR.out b5 qR.out.lt); clear b5 hc1 hd0 hd1 hd2 hcR hfR; have hc1 := q1.out.cell (i := 0) (by omega); have hd0 := q2.out.cell (i := 0) (by omega); have hd1 := q2.out.cell (i := 1) (by omega); have hd2 := q2.out.cell (i := 2) (by omega); simp only [Nat.reduceEqDiff, if_true, if_false, Nat.one_ne_zero] at hd0 hd1 hd2; have hcR := qR.out.cell (i := 0) (by omega); have hfR := qR.out.frozen 0; have tk4 : True := trivial)
            | (clear tk4; at_mapUpdate; refine wpList_mapUpdate_own _ rfl _ _ _ 97 rfl 53 4 lawVt Try.underlying97 boE mb m (vD vs m) rfl om'.out (by unfold maxLen; omega) _ _ _ rfl rfl hkey.out _ [] (boE_mk true) ?_; intro w5 hown5 hg5; have lom := om'.out.lt; clear om'; have om' := Lib.hid hown5; have b6 : Below (w.heap.size + 3) w4 w5 := ⟨hg5.os, hg5.tape, hg5.output, hg5.size, fun k hk => hg5.block k (by have := lo3.out; omega) (fun e => by injection e with e; have := lo3.out; omega)⟩; replace u := Lib.hid (u.out.trans (b6.mono (by omega))); replace q1 := Lib.hid (rowIs_below q1.out b6 (by omega)); replace q2 := Lib.hid (rowIs_below q2.out b6 (by omega)); replace qR := Lib.hid (rowIs_below qR.out b6 (by omega)); clear b6 hown5 hg5 lom hc1 hd0 hd1 hd2 hcR hfR; have hc1 := q1.out.cell (i := 0) (by omega); have hd0 := q2.out.cell (i := 0) (by omega); have hd1 := q2.out.cell (i := 1) (by omega); have hd2 := q2.out.cell (i := 2) (by omega); simp only [Nat.reduceEqDiff, if_true, if_false, Nat.one_ne_zero] at hd0 hd1 hd2; have hcR := qR.out.cell (i := 0) (by omega); have hfR := qR.out.frozen 0; have tk5 : True := trivial)
            | (go_at_call 74; refine (inOrder_any mb (m + 1) ((vD vs m).put (kv (x, y, z)) (.lit (.bool true))) _ om'.out (by omega)).mono ?_; rintro e w6 ⟨us, hus, A3, n3, c3, rfl, o3, b7⟩; rw [hput.out us hus] at o3; have o4 := Lib.hid o3; have lR := Lib.hid qR.out.lt; clear o3 hus; replace u := Lib.hid (u.out.trans (b7.mono u.out.size)); replace q1 := Lib.hid (rowIs_below q1.out b7 q1.out.lt); replace q2 := Lib.hid (rowIs_below q2.out b7 q2.out.lt); replace qR := Lib.hid (rowIs_below qR.out b7 qR.out.lt); clear b7 hc1 hd0 hd1 hd2 hcR hfR; have hc1 := q1.out.cell (i := 0) (by omega); have hd0 := q2.out.cell (i := 0) (by omega); have hd1 := q2.out.cell (i := 1) (by omega); have hd2 := q2.out.cell (i := 2) (by omega); simp only [Nat.reduceEqDiff, if_true, if_false, Nat.one_ne_zero] at hd0 hd1 hd2; have hcR := qR.out.cell (i := 0) (by omega); have hfR := qR.out.frozen 0))
          refine bodyPost_ret (results_row3 rfl _ _ (w.heap.size + 2) 29 #[.slice A3 n3 c3] (0, 0) _ rfl (pl_one_set qR.out _) Try.underlying29 rfl (by kernel_rfl)) rfl ?_
          exact ⟨A3, n3, c3, by rw [hok.out, hcd.out]; rfl, by rw [hr.out]; exact (o4.out.setBox lR.out _).fewer (by have := lR.out; omega), u.out.setCell (by show w.heap.size ≤ w.heap.size + 2; omega) _⟩
theorem implPutVoteX_any (A : Option Addr) (n c : Nat) (ts : List Blk) (A' : Option Addr) (n' c' : Nat) (ss : List Int) (V : Option Addr) (m d : Nat) (vs : List Vt) (x y z : Int) (w : World) (h : BlksAt w w.heap.size A n ts) (h' : IntsAt w w.heap.size A' n' ss) (hv : VotesAt w w.heap.size V m vs) (hn : n ≤ 1048576) (hn' : n' ≤ 1048576) (hm : m ≤ 1048576) (_hcap : m ≤ d) (_hnil : V = none → m = 0 ∧ d = 0) :
    Calls Try.prog 34 #[.slice A n c, .slice A' n' c', .agg #[.slice V m d], .agg #[.int .i64 x, .int .i64 y, .int .i64 z]] w (RetPut w (putC ts ss vs (x, y, z)) (putOK ts ss vs (x, y, z)) (putR ts ss vs (x, y, z))) :=
  implPutVote_any A n c ts A' n' c' ss V m d vs x y z w h h' hv hn hn' hm
theorem putR_len (ts : List Blk) (ss : List Int) (l : List Vt) (v : Vt) : (putR ts ss l v).length ≤ 100 := by
  unfold putR
  split
  · next h =>
    unfold putOK at h
    rw [Bool.and_eq_true] at h
    have h60 := (poolOk_iff'.1 h.1).1.2
    split
    · omega
    · split <;> omega
  · exact Nat.zero_le _
end Go.Proofs.Ytlobjfipefibaaa
