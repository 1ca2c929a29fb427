/- What is proved here: what the model's PutVote returns. No conditions but lengths, and a slice's room. -/
import Derived.Test.YtlobjfipefibaaaPoolOfSpec
namespace Go.Proofs.Ytlobjfipefibaaa
open Go.RowKit

theorem results_row3 {P : Program} {fn : Func} {p u u' : Tmp} {ty : TypeId} (h : fn.results = #[.cell p ty, .tmp u, .tmp u']) (tmps : Array Value) (w : World) (g : Nat) (t : TypeId) (cs : Array Value) (fr : Nat × Nat) (d : TypeDesc)
    (hp : tmps.getD p undef = .pointer (some ⟨g, 0, none⟩)) (hg : w.heap[g]? = some (.cells cs t fr))
    (hu : P.underlying ty = some d) (hd : (match d with | .struct _ | .array _ _ => true | _ => false) = true) (hi : (P.info? ty).map (·.size) = some cs.size) :
    (results fn tmps).run P w = .ok (.tuple #[.agg cs, tmps.getD u undef, tmps.getD u' undef]) w := by
  have h0 : (results fn tmps).run P w =
      ((asAddr (tmps.getD p undef)).run P w).andThen fun a w₁ => ((loadVar ty a).run P w₁).andThen fun v w₂ => .ok (.tuple #[v, tmps.getD u undef, tmps.getD u' undef]) w₂ := by
    simp only [results, h]
    simp [Sem.run_bind, Result.andThen]
  rw [h0, hp]
  simp [asAddr, run_loadVar_row w g t ty cs fr d hg hu hd hi]
def RetPut (w : World) (k : Int) (b : Bool) (vs : List Vt) (e : Ending) (w' : World) : Prop :=
  ∃ A n c, e = .returned (.tuple #[.agg #[.slice A n c], .int .i64 k, .bool b]) ∧ OwnV w' w.heap.size A n vs ∧ Below w.heap.size w w'
def putOK (ts : List Blk) (ss : List Int) (l : List Vt) (v : Vt) : Bool := poolOk ts ss l && voteOk ts ss.length v
def putC (ts : List Blk) (ss : List Int) (l : List Vt) (v : Vt) : Int := if putOK ts ss l v = true then (if (putV l v).length ≤ l.length then 1 else if (putV l v).length ≤ 60 then 0 else 2) else 0
def putR (ts : List Blk) (ss : List Int) (l : List Vt) (v : Vt) : List Vt := if putOK ts ss l v = true then (if (putV l v).length ≤ l.length then l else if (putV l v).length ≤ 60 then putV l v else l) else []
theorem cells_of_votes {w w1 : World} {V : Option Addr} {m : Nat} {vs : List Vt} (h : VotesAt w w.heap.size V m vs) (hb : Below w.heap.size w w1) : ∀ ad, V = some ad → ∀ t, t < m * 3 → ∀ W', Below w1.heap.size w1 W' → W'.cell? (ad.add t) = some (cellsV vs t) := fun ad e0 t ht W' hb' => by
  obtain ⟨b', off', e, hbl, _⟩ := h.2 0 (by omega)
  rw [e0] at e
  cases e
  have h1 := h
  rw [e0] at h1
  rw [Addr.add_lit]
  exact ((hb.trans (hb'.mono hb.size)).cell (p := ⟨b', off' + t, none⟩) hbl).trans (votes_cell h1 ht)
theorem bxv_rows (w : World) (v1 v3 : Value) (x y z : Int) (t1 t2 t3 : TypeId) : (((w.alloc (.cells #[v1] t1)).alloc (.cells #[.int .i64 x, .int .i64 y, .int .i64 z] t2)).alloc (.cells #[v3] t3)).rowIs w.heap.size t1 1 (fun _ => v1) ∧
    (((w.alloc (.cells #[v1] t1)).alloc (.cells #[.int .i64 x, .int .i64 y, .int .i64 z] t2)).alloc (.cells #[v3] t3)).rowIs (w.heap.size + 1) t2 3 (fun i => if i = 0 then .int .i64 x else if i = 1 then .int .i64 y else .int .i64 z) ∧
    (((w.alloc (.cells #[v1] t1)).alloc (.cells #[.int .i64 x, .int .i64 y, .int .i64 z] t2)).alloc (.cells #[v3] t3)).rowIs (w.heap.size + 2) t3 1 (fun _ => v3) ∧
    Below w.heap.size w (((w.alloc (.cells #[v1] t1)).alloc (.cells #[.int .i64 x, .int .i64 y, .int .i64 z] t2)).alloc (.cells #[v3] t3)) := by
  obtain ⟨r1, b1, s1⟩ := bx1_rows w v1 t1
  have r2 := three_cells (w.alloc (.cells #[v1] t1)) x y z t2
  have b2 := bx_below (w.alloc (.cells #[v1] t1)) (.cells #[.int .i64 x, .int .i64 y, .int .i64 z] t2)
  have r3 := bx_row ((w.alloc (.cells #[v1] t1)).alloc (.cells #[.int .i64 x, .int .i64 y, .int .i64 z] t2)) v3 t3
  have b3 := bx_below ((w.alloc (.cells #[v1] t1)).alloc (.cells #[.int .i64 x, .int .i64 y, .int .i64 z] t2)) (.cells #[v3] t3)
  have s2 : ((w.alloc (.cells #[v1] t1)).alloc (.cells #[.int .i64 x, .int .i64 y, .int .i64 z] t2)).heap.size = w.heap.size + 2 := by simp
  have q1 := rowIs_below (rowIs_below r1 b2 r1.lt) b3 (by rw [s2]; omega)
  rw [s1] at r2
  have q2 := rowIs_below r2 b3 r2.lt
  rw [s2] at r3
  exact ⟨q1, q2, r3, b1.trans ((b2.mono b1.size).trans (b3.mono (by rw [s2]; omega)))⟩
set_option maxRecDepth 100000 in
set_option maxHeartbeats 1600000 in
theorem specPutVote_any (A : Option Addr) (n c : Nat) (ts : List Blk) (A' : Option Addr) (n' c' : Nat) (ss : List Int) (V : Option Addr) (m d : Nat) (vs : List Vt) (x y z : Int) (w : World) (h : BlksAt w w.heap.size A n ts) (h' : IntsAt w w.heap.size A' n' ss) (hv : VotesAt w w.heap.size V m vs) (hn : n ≤ 1048576) (hn' : n' ≤ 1048576) (hm : m ≤ 1048576) (hcap : m ≤ d) (hnil : V = none → m = 0 ∧ d = 0) :
    Calls Try.prog 31 #[.slice A n c, .slice A' n' c', .agg #[.slice V m d], .agg #[.int .i64 x, .int .i64 y, .int .i64 z]] w (RetPut w (putC ts ss vs (x, y, z)) (putOK ts ss vs (x, y, z)) (putR ts ss vs (x, y, z))) := by
  have hlv := Lib.hid hv.1; have hl' := Lib.hid h'.1
  have hh := Lib.hid h; have hh' := Lib.hid h'; have hvv := Lib.hid hv; have hnil' := Lib.hid hnil; clear h h' hv hnil
  obtain ⟨r1, r2, rR, bW⟩ := bxv_rows w (.slice V m d) (.slice none 0 0) x y z 29 53 29
  have q1 := Lib.hid r1; have q2 := Lib.hid r2
  have qR := Lib.hid rR; have u := Lib.hid bW
  clear bW rR r1 r2
  have hc1 := q1.out.cell (i := 0) (by omega); have hd0 := q2.out.cell (i := 0) (by omega); have hd1 := q2.out.cell (i := 1) (by omega); have hd2 := q2.out.cell (i := 2) (by omega)
  simp only [Nat.reduceEqDiff, if_true, if_false, Nat.one_ne_zero] at hd0 hd1 hd2
  cases hg : poolOk ts ss vs
  · skip
    have hok := Lib.hid (show putOK ts ss vs (x, y, z) = false by unfold putOK; rw [hg]; simp)
    have hr := Lib.hid (show putR ts ss vs (x, y, z) = [] by unfold putR; rw [if_neg (by rw [hok.out]; decide)])
    have hcd := Lib.hid (show putC ts ss vs (x, y, z) = 0 by unfold putC; rw [if_neg (by rw [hok.out]; decide)])
    go_enter Try.func31, Try.ntmps31
    have tk0 : True := trivial
    have tk1 : True := trivial
    go_wp2_with (first
      | (clear tk0; go_at_call 78; refine (specGoodPool_any A n c ts A' n' c' ss V m d vs _ (hh.out.up u.out) (hh'.out.up' u.out) (hvv.out.up u.out) hn hn' hm).mono ?_; rintro e w1 ⟨rfl, b1⟩; rw [hg]; replace u := Lib.hid (u.out.trans (b1.mono u.out.size)); replace q1 := Lib.hid (rowIs_below q1.out b1 q1.out.lt); replace q2 := Lib.hid (rowIs_below q2.out b1 q2.out.lt); replace qR := Lib.hid (rowIs_below qR.out b1 qR.out.lt); clear b1 hc1 hd0 hd1 hd2; have hc1 := q1.out.cell (i := 0) (by omega); have hd0 := q2.out.cell (i := 0) (by omega); have hd1 := q2.out.cell (i := 1) (by omega); have hd2 := q2.out.cell (i := 2) (by omega); simp only [Nat.reduceEqDiff, if_true, if_false, Nat.one_ne_zero] at hd0 hd1 hd2; have hcR := qR.out.cell (i := 0) (by omega); have hfR := qR.out.frozen 0))
    refine bodyPost_ret (results_row3 rfl _ _ (w.heap.size + 2) 29 #[.slice none 0 0] (0, 0) _ rfl (pl_one_set qR.out _) Try.underlying29 rfl (by kernel_rfl)) rfl ?_
    exact ⟨none, 0, 0, by rw [hok.out, hcd.out]; rfl, by rw [hr.out]; exact OwnV.nil _ _, u.out.setCell (by show w.heap.size ≤ w.heap.size + 2; omega) _⟩
  · skip
    cases hg' : voteOk ts n' (x, y, z)
    · skip
      have hok := Lib.hid (show putOK ts ss vs (x, y, z) = false by unfold putOK; rw [hg, hl'.out, hg']; simp)
      have hr := Lib.hid (show putR ts ss vs (x, y, z) = [] by unfold putR; rw [if_neg (by rw [hok.out]; decide)])
      have hcd := Lib.hid (show putC ts ss vs (x, y, z) = 0 by unfold putC; rw [if_neg (by rw [hok.out]; decide)])
      go_enter Try.func31, Try.ntmps31
      have tk0 : True := trivial
      have tk1 : True := trivial
      go_wp2_with (first
        | (clear tk0; go_at_call 78; refine (specGoodPool_any A n c ts A' n' c' ss V m d vs _ (hh.out.up u.out) (hh'.out.up' u.out) (hvv.out.up u.out) hn hn' hm).mono ?_; rintro e w1 ⟨rfl, b1⟩; rw [hg]; replace u := Lib.hid (u.out.trans (b1.mono u.out.size)); replace q1 := Lib.hid (rowIs_below q1.out b1 q1.out.lt); replace q2 := Lib.hid (rowIs_below q2.out b1 q2.out.lt); replace qR := Lib.hid (rowIs_below qR.out b1 qR.out.lt); clear b1 hc1 hd0 hd1 hd2; have hc1 := q1.out.cell (i := 0) (by omega); have hd0 := q2.out.cell (i := 0) (by omega); have hd1 := q2.out.cell (i := 1) (by omega); have hd2 := q2.out.cell (i := 2) (by omega); simp only [Nat.reduceEqDiff, if_true, if_false, Nat.one_ne_zero] at hd0 hd1 hd2; have hcR := qR.out.cell (i := 0) (by omega); have hfR := qR.out.frozen 0)
        | (clear tk1; go_at_call 79; refine (l6Vote_any A n c ts A' n' c' x y z _ (hh.out.up u.out) hn hn').mono ?_; rintro e w1 ⟨rfl, b1⟩; rw [hg']; replace u := Lib.hid (u.out.trans (b1.mono u.out.size)); replace q1 := Lib.hid (rowIs_below q1.out b1 q1.out.lt); replace q2 := Lib.hid (rowIs_below q2.out b1 q2.out.lt); replace qR := Lib.hid (rowIs_below qR.out b1 qR.out.lt); clear b1 hc1 hd0 hd1 hd2 hcR hfR; have hc1 := q1.out.cell (i := 0) (by omega); have hd0 := q2.out.cell (i := 0) (by omega); have hd1 := q2.out.cell (i := 1) (by omega); have hd2 := q2.out.cell (i := 2) (by omega); simp only [Nat.reduceEqDiff, if_true, if_false, Nat.one_ne_zero] at hd0 hd1 hd2; have hcR := qR.out.cell (i := 0) (by omega); have hfR := qR.out.frozen 0))
      refine bodyPost_ret (results_row3 rfl _ _ (w.heap.size + 2) 29 #[.slice none 0 0] (0, 0) _ rfl (pl_one_set qR.out _) Try.underlying29 rfl (by kernel_rfl)) rfl ?_
      exact ⟨none, 0, 0, by rw [hok.out, hcd.out]; rfl, by rw [hr.out]; exact OwnV.nil _ _, u.out.setCell (by show w.heap.size ≤ w.heap.size + 2; omega) _⟩
    · skip
      have hok := Lib.hid (show putOK ts ss vs (x, y, z) = true by unfold putOK; rw [hg, hl'.out, hg']; rfl)
      have hm60 : m ≤ 60 := by rw [← hlv.out]; exact (poolOk_iff'.1 hg).1.2
      have hge := Lib.hid (putV_ge vs (x, y, z)); have hle := Lib.hid (putV_len vs (x, y, z))
      by_cases hk1 : (putV vs (x, y, z)).length ≤ vs.length
      · have hk1' := Lib.hid hk1
        have hr := Lib.hid (show putR ts ss vs (x, y, z) = vs by unfold putR; rw [if_pos hok.out, if_pos hk1'.out])
        have hcd := Lib.hid (show putC ts ss vs (x, y, z) = 1 by unfold putC; rw [if_pos hok.out, if_pos hk1'.out])
        go_enter Try.func31, Try.ntmps31
        have tk0 : True := trivial
        have tk1 : True := trivial
        have tk2 : True := trivial
        have tk3 : True := trivial
        go_wp2_with (first
          | (clear tk0; go_at_call 78; refine (specGoodPool_any A n c ts A' n' c' ss V m d vs _ (hh.out.up u.out) (hh'.out.up' u.out) (hvv.out.up u.out) hn hn' hm).mono ?_; rintro e w1 ⟨rfl, b1⟩; rw [hg]; replace u := Lib.hid (u.out.trans (b1.mono u.out.size)); replace q1 := Lib.hid (rowIs_below q1.out b1 q1.out.lt); replace q2 := Lib.hid (rowIs_below q2.out b1 q2.out.lt); replace qR := Lib.hid (rowIs_below qR.out b1 qR.out.lt); clear b1 hc1 hd0 hd1 hd2; have hc1 := q1.out.cell (i := 0) (by omega); have hd0 := q2.out.cell (i := 0) (by omega); have hd1 := q2.out.cell (i := 1) (by omega); have hd2 := q2.out.cell (i := 2) (by omega); simp only [Nat.reduceEqDiff, if_true, if_false, Nat.one_ne_zero] at hd0 hd1 hd2; have hcR := qR.out.cell (i := 0) (by omega); have hfR := qR.out.frozen 0)
          | (clear tk1; go_at_call 79; refine (l6Vote_any A n c ts A' n' c' x y z _ (hh.out.up u.out) hn hn').mono ?_; rintro e w1 ⟨rfl, b1⟩; rw [hg']; replace u := Lib.hid (u.out.trans (b1.mono u.out.size)); replace q1 := Lib.hid (rowIs_below q1.out b1 q1.out.lt); replace q2 := Lib.hid (rowIs_below q2.out b1 q2.out.lt); replace qR := Lib.hid (rowIs_below qR.out b1 qR.out.lt); clear b1 hc1 hd0 hd1 hd2 hcR hfR; have hc1 := q1.out.cell (i := 0) (by omega); have hd0 := q2.out.cell (i := 0) (by omega); have hd1 := q2.out.cell (i := 1) (by omega); have hd2 := q2.out.cell (i := 2) (by omega); simp only [Nat.reduceEqDiff, if_true, if_false, Nat.one_ne_zero] at hd0 hd1 hd2; have hcR := qR.out.cell (i := 0) (by omega); have hfR := qR.out.frozen 0)
          | (clear tk2
             go_at_call 80
             refine (l6Put_any V m d vs x y z _ (hvv.out.up u.out) hm hcap hnil'.out).mono ?_
             rintro e w2 ⟨A2, n2, c2, rfl, v2, cap2, nil2, b2⟩
             have z2 := Lib.hid v2
             have y2 := Lib.hid nil2
             replace u := Lib.hid (u.out.trans (b2.mono u.out.size))
             replace q1 := Lib.hid (rowIs_below q1.out b2 q1.out.lt)
             replace q2 := Lib.hid (rowIs_below q2.out b2 q2.out.lt)
             replace qR := Lib.hid (rowIs_below qR.out b2 qR.out.lt)
             have hcl := Lib.hid (cells_of_votes hvv.out u.out)
             have s0 := Lib.hid (World.ownsRow_made (base := w2.heap.size) (e := 53) (size := 3) w2 #[] 0 (Nat.le_refl _) (by decide) rfl)
             have u0 := Lib.hid (bx_below w2 (.cells #[] 53))
             have hlen2 := Lib.hid v2.1
             have hszW := Lib.hid (show w.heap.size + 3 ≤ w2.heap.size from qR.out.lt)
             clear v2 nil2 b2 hc1 hd0 hd1 hd2 hcR hfR
             have hc1 := q1.out.cell (i := 0) (by omega)
             have hd0 := q2.out.cell (i := 0) (by omega)
             have hd1 := q2.out.cell (i := 1) (by omega)
             have hd2 := q2.out.cell (i := 2) (by omega)
             simp only [Nat.reduceEqDiff, if_true, if_false, Nat.one_ne_zero] at hd0 hd1 hd2
             have hcR := qR.out.cell (i := 0) (by omega)
             have hfR := qR.out.frozen 0
             have hc1a := (rowIs_below q1.out u0.out q1.out.lt).cell (i := 0) (by omega)
             obtain rfl : m = n2 := by have a1 := hk1'.out; have a2 := hge.out; have a3 := hlen2.out; have a4 := hlv.out; omega)
          | (clear tk3
             at_builtin
             refine appendSlV _ rfl (.tmp 30) (.tmp 32) 27 rfl w2.heap.size Try.underlying27 _ [] rfl s0.out V m d vs hlv.out rfl hnil'.out (fun ad e t ht => hcl.out ad e t ht _ u0.out) (by simp; omega) (by simp) ?_
             intro v1 w3 o1 g1 a1
             have f1 : Below w2.heap.size w2 w3 := (((Below.refl w2.heap.size w2).alloc (Nat.le_refl _) (.cells #[] 53)).grown g1 (by simp) (fun q e => by cases e; exact Nat.le_refl _))
             rw [List.nil_append] at o1
             obtain ⟨A3, c3, e3, p3⟩ := OwnV.of_owns o1
             rw [hlv.out] at e3 p3
             subst e3
             have kk := bx_below w3 (.cells #[.slice A3 m c3] 29)
             have fs : w2.heap.size ≤ w3.heap.size := f1.size
             have x1 := Lib.hid (bx_row w3 (.slice A3 m c3) 29)
             have hx1 := x1.out.cell (i := 0) (by omega)
             have ff := f1.trans (kk.mono fs)
             have p3' := Lib.hid (p3.below kk)
             replace u := Lib.hid (u.out.trans (ff.mono u.out.size))
             replace q1 := Lib.hid (rowIs_below q1.out ff q1.out.lt)
             replace q2 := Lib.hid (rowIs_below q2.out ff q2.out.lt)
             replace qR := Lib.hid (rowIs_below qR.out ff qR.out.lt)
             have z3 := Lib.hid (z2.out.up ff)
             clear o1 g1 a1 p3 kk f1 hcl s0 u0 z2 hc1 hc1a hd0 hd1 hd2 hcR hfR
             have hc1 := q1.out.cell (i := 0) (by omega)
             have hd0 := q2.out.cell (i := 0) (by omega)
             have hd1 := q2.out.cell (i := 1) (by omega)
             have hd2 := q2.out.cell (i := 2) (by omega)
             simp only [Nat.reduceEqDiff, if_true, if_false, Nat.one_ne_zero] at hd0 hd1 hd2
             have hcR := qR.out.cell (i := 0) (by omega)
             have hfR := qR.out.frozen 0))
        refine bodyPost_ret (results_row3 rfl _ _ (w.heap.size + 2) 29 #[.slice A3 m c3] (0, 0) _ rfl (pl_one_set qR.out _) Try.underlying29 rfl (by kernel_rfl)) rfl ?_
        exact ⟨A3, m, c3, by rw [hok.out, hcd.out]; rfl, by rw [hr.out]; exact (p3'.out.setBox (by have a5 := qR.out.lt; have a6 := hszW.out; omega) _).fewer (by have a6 := hszW.out; omega), u.out.setCell (by show w.heap.size ≤ w.heap.size + 2; omega) _⟩
      · by_cases hk2 : (putV vs (x, y, z)).length ≤ 60
        · have hk1' := Lib.hid hk1; have hk2' := Lib.hid hk2
          have hr := Lib.hid (show putR ts ss vs (x, y, z) = putV vs (x, y, z) by unfold putR; rw [if_pos hok.out, if_neg hk1'.out, if_pos hk2'.out])
          have hcd := Lib.hid (show putC ts ss vs (x, y, z) = 0 by unfold putC; rw [if_pos hok.out, if_neg hk1'.out, if_pos hk2'.out])
          go_enter Try.func31, Try.ntmps31
          have tk0 : True := trivial
          have tk1 : True := trivial
          have tk2 : True := trivial
          have tk3 : True := trivial
          have tk4 : True := trivial
          go_wp2_with (first
            | (clear tk0; go_at_call 78; refine (specGoodPool_any A n c ts A' n' c' ss V m d vs _ (hh.out.up u.out) (hh'.out.up' u.out) (hvv.out.up u.out) hn hn' hm).mono ?_; rintro e w1 ⟨rfl, b1⟩; rw [hg]; replace u := Lib.hid (u.out.trans (b1.mono u.out.size)); replace q1 := Lib.hid (rowIs_below q1.out b1 q1.out.lt); replace q2 := Lib.hid (rowIs_below q2.out b1 q2.out.lt); replace qR := Lib.hid (rowIs_below qR.out b1 qR.out.lt); clear b1 hc1 hd0 hd1 hd2; have hc1 := q1.out.cell (i := 0) (by omega); have hd0 := q2.out.cell (i := 0) (by omega); have hd1 := q2.out.cell (i := 1) (by omega); have hd2 := q2.out.cell (i := 2) (by omega); simp only [Nat.reduceEqDiff, if_true, if_false, Nat.one_ne_zero] at hd0 hd1 hd2; have hcR := qR.out.cell (i := 0) (by omega); have hfR := qR.out.frozen 0)
            | (clear tk1; go_at_call 79; refine (l6Vote_any A n c ts A' n' c' x y z _ (hh.out.up u.out) hn hn').mono ?_; rintro e w1 ⟨rfl, b1⟩; rw [hg']; replace u := Lib.hid (u.out.trans (b1.mono u.out.size)); replace q1 := Lib.hid (rowIs_below q1.out b1 q1.out.lt); replace q2 := Lib.hid (rowIs_below q2.out b1 q2.out.lt); replace qR := Lib.hid (rowIs_below qR.out b1 qR.out.lt); clear b1 hc1 hd0 hd1 hd2 hcR hfR; have hc1 := q1.out.cell (i := 0) (by omega); have hd0 := q2.out.cell (i := 0) (by omega); have hd1 := q2.out.cell (i := 1) (by omega); have hd2 := q2.out.cell (i := 2) (by omega); simp only [Nat.reduceEqDiff, if_true, if_false, Nat.one_ne_zero] at hd0 hd1 hd2; have hcR := qR.out.cell (i := 0) (by omega); have hfR := qR.out.frozen 0)
            | (clear tk2
               go_at_call 80
               refine (l6Put_any V m d vs x y z _ (hvv.out.up u.out) hm hcap hnil'.out).mono ?_
               rintro e w2 ⟨A2, n2, c2, rfl, v2, cap2, nil2, b2⟩
               have z2 := Lib.hid v2
               have y2 := Lib.hid nil2
               replace u := Lib.hid (u.out.trans (b2.mono u.out.size))
               replace q1 := Lib.hid (rowIs_below q1.out b2 q1.out.lt)
               replace q2 := Lib.hid (rowIs_below q2.out b2 q2.out.lt)
               replace qR := Lib.hid (rowIs_below qR.out b2 qR.out.lt)
               have hcl := Lib.hid (cells_of_votes hvv.out u.out)
               have s0 := Lib.hid (World.ownsRow_made (base := w2.heap.size) (e := 53) (size := 3) w2 #[] 0 (Nat.le_refl _) (by decide) rfl)
               have u0 := Lib.hid (bx_below w2 (.cells #[] 53))
               have hlen2 := Lib.hid v2.1
               have hszW := Lib.hid (show w.heap.size + 3 ≤ w2.heap.size from qR.out.lt)
               clear v2 nil2 b2 hc1 hd0 hd1 hd2 hcR hfR
               have hc1 := q1.out.cell (i := 0) (by omega)
               have hd0 := q2.out.cell (i := 0) (by omega)
               have hd1 := q2.out.cell (i := 1) (by omega)
               have hd2 := q2.out.cell (i := 2) (by omega)
               simp only [Nat.reduceEqDiff, if_true, if_false, Nat.one_ne_zero] at hd0 hd1 hd2
               have hcR := qR.out.cell (i := 0) (by omega)
               have hfR := qR.out.frozen 0
               have hc1a := (rowIs_below q1.out u0.out q1.out.lt).cell (i := 0) (by omega)
               have hn2 : m < n2 := by have a1 := hk1'.out; have a3 := hlen2.out; have a4 := hlv.out; omega
               have hn60 : n2 ≤ 60 := by have a1 := hk2'.out; have a3 := hlen2.out; omega)
            | (clear tk3
               at_builtin
               refine appendSlV _ rfl (.tmp 30) (.tmp 32) 27 rfl w2.heap.size Try.underlying27 _ [] rfl s0.out V m d vs hlv.out rfl hnil'.out (fun ad e t ht => hcl.out ad e t ht _ u0.out) (by simp; omega) (by simp) ?_
               intro v1 w3 o1 g1 a1
               have f1 : Below w2.heap.size w2 w3 := (((Below.refl w2.heap.size w2).alloc (Nat.le_refl _) (.cells #[] 53)).grown g1 (by simp) (fun q e => by cases e; exact Nat.le_refl _))
               rw [List.nil_append] at o1
               obtain ⟨A3, c3, e3, p3⟩ := OwnV.of_owns o1
               rw [hlv.out] at e3 p3
               subst e3
               have kk := bx_below w3 (.cells #[.slice A3 m c3] 29)
               have fs : w2.heap.size ≤ w3.heap.size := f1.size
               have x1 := Lib.hid (bx_row w3 (.slice A3 m c3) 29)
               have hx1 := x1.out.cell (i := 0) (by omega)
               have ff := f1.trans (kk.mono fs)
               have p3' := Lib.hid (p3.below kk)
               replace u := Lib.hid (u.out.trans (ff.mono u.out.size))
               replace q1 := Lib.hid (rowIs_below q1.out ff q1.out.lt)
               replace q2 := Lib.hid (rowIs_below q2.out ff q2.out.lt)
               replace qR := Lib.hid (rowIs_below qR.out ff qR.out.lt)
               have z3 := Lib.hid (z2.out.up ff)
               have hs3 : w3.heap.size + 1 = (w3.alloc (.cells #[.slice A3 m c3] 29)).heap.size := by simp
               generalize hW4 : w3.alloc (.cells #[.slice A3 m c3] 29) = w4 at *
               have hcl4 := Lib.hid (cells_of_votes z3.out (Below.refl _ w4))
               have s4 := Lib.hid (World.ownsRow_made (base := w4.heap.size) (e := 53) (size := 3) w4 #[] 0 (Nat.le_refl _) (by decide) rfl)
               have u4 := Lib.hid (bx_below w4 (.cells #[] 53))
               have hsz5 := Lib.hid (show w.heap.size + 3 ≤ w4.heap.size by have := hszW.out; omega)
               clear o1 g1 a1 p3 kk f1 hcl s0 u0 z2 hc1 hc1a hd0 hd1 hd2 hcR hfR
               have hc1 := q1.out.cell (i := 0) (by omega)
               have hd0 := q2.out.cell (i := 0) (by omega)
               have hd1 := q2.out.cell (i := 1) (by omega)
               have hd2 := q2.out.cell (i := 2) (by omega)
               simp only [Nat.reduceEqDiff, if_true, if_false, Nat.one_ne_zero] at hd0 hd1 hd2
               have hcR := qR.out.cell (i := 0) (by omega)
               have hfR := qR.out.frozen 0)
            | (clear tk4
               at_builtin
               refine appendSlV _ rfl (.tmp 48) (.tmp 49) 27 rfl w4.heap.size Try.underlying27 _ [] rfl s4.out A2 n2 c2 (putV vs (x, y, z)) hlen2.out rfl y2.out (fun ad e t ht => hcl4.out ad e t ht _ u4.out) (by simp; omega) (by simp) ?_
               intro v1 w5 o1 g1 a1
               have f1 : Below w4.heap.size w4 w5 := (((Below.refl w4.heap.size w4).alloc (Nat.le_refl _) (.cells #[] 53)).grown g1 (by simp) (fun q e => by cases e; exact Nat.le_refl _))
               rw [List.nil_append] at o1
               obtain ⟨A5, c5, e5, p5⟩ := OwnV.of_owns o1
               rw [hlen2.out] at e5 p5
               subst e5
               have p5' := Lib.hid p5
               replace u := Lib.hid (u.out.trans (f1.mono u.out.size))
               replace q1 := Lib.hid (rowIs_below q1.out f1 q1.out.lt)
               replace q2 := Lib.hid (rowIs_below q2.out f1 q2.out.lt)
               replace qR := Lib.hid (rowIs_below qR.out f1 qR.out.lt)
               clear o1 g1 a1 p5 f1 hcl4 s4 u4 hc1 hd0 hd1 hd2 hcR hfR hx1
               have hc1 := q1.out.cell (i := 0) (by omega)
               have hd0 := q2.out.cell (i := 0) (by omega)
               have hd1 := q2.out.cell (i := 1) (by omega)
               have hd2 := q2.out.cell (i := 2) (by omega)
               simp only [Nat.reduceEqDiff, if_true, if_false, Nat.one_ne_zero] at hd0 hd1 hd2
               have hcR := qR.out.cell (i := 0) (by omega)
               have hfR := qR.out.frozen 0))
          refine bodyPost_ret (results_row3 rfl _ _ (w.heap.size + 2) 29 #[.slice A5 n2 c5] (0, 0) _ rfl (pl_one_set qR.out _) Try.underlying29 rfl (by kernel_rfl)) rfl ?_
          exact ⟨A5, n2, c5, by rw [hok.out, hcd.out]; rfl, by rw [hr.out]; exact (p5'.out.setBox (by have a5 := hsz5.out; omega) _).fewer (by have a6 := hsz5.out; omega), u.out.setCell (by show w.heap.size ≤ w.heap.size + 2; omega) _⟩
        · have hk1' := Lib.hid hk1; have hk2' := Lib.hid hk2
          have hr := Lib.hid (show putR ts ss vs (x, y, z) = vs by unfold putR; rw [if_pos hok.out, if_neg hk1'.out, if_neg hk2'.out])
          have hcd := Lib.hid (show putC ts ss vs (x, y, z) = 2 by unfold putC; rw [if_pos hok.out, if_neg hk1'.out, if_neg hk2'.out])
          go_enter Try.func31, Try.ntmps31
          have tk0 : True := trivial
          have tk1 : True := trivial
          have tk2 : True := trivial
          have tk3 : True := trivial
          go_wp2_with (first
            | (clear tk0; go_at_call 78; refine (specGoodPool_any A n c ts A' n' c' ss V m d vs _ (hh.out.up u.out) (hh'.out.up' u.out) (hvv.out.up u.out) hn hn' hm).mono ?_; rintro e w1 ⟨rfl, b1⟩; rw [hg]; replace u := Lib.hid (u.out.trans (b1.mono u.out.size)); replace q1 := Lib.hid (rowIs_below q1.out b1 q1.out.lt); replace q2 := Lib.hid (rowIs_below q2.out b1 q2.out.lt); replace qR := Lib.hid (rowIs_below qR.out b1 qR.out.lt); clear b1 hc1 hd0 hd1 hd2; have hc1 := q1.out.cell (i := 0) (by omega); have hd0 := q2.out.cell (i := 0) (by omega); have hd1 := q2.out.cell (i := 1) (by omega); have hd2 := q2.out.cell (i := 2) (by omega); simp only [Nat.reduceEqDiff, if_true, if_false, Nat.one_ne_zero] at hd0 hd1 hd2; have hcR := qR.out.cell (i := 0) (by omega); have hfR := qR.out.frozen 0)
            | (clear tk1; go_at_call 79; refine (l6Vote_any A n c ts A' n' c' x y z _ (hh.out.up u.out) hn hn').mono ?_; rintro e w1 ⟨rfl, b1⟩; rw [hg']; replace u := Lib.hid (u.out.trans (b1.mono u.out.size)); replace q1 := Lib.hid (rowIs_below q1.out b1 q1.out.lt); replace q2 := Lib.hid (rowIs_below q2.out b1 q2.out.lt); replace qR := Lib.hid (rowIs_below qR.out b1 qR.out.lt); clear b1 hc1 hd0 hd1 hd2 hcR hfR; have hc1 := q1.out.cell (i := 0) (by omega); have hd0 := q2.out.cell (i := 0) (by omega); have hd1 := q2.out.cell (i := 1) (by omega); have hd2 := q2.out.cell (i := 2) (by omega); simp only [Nat.reduceEqDiff, if_true, if_false, Nat.one_ne_zero] at hd0 hd1 hd2; have hcR := qR.out.cell (i := 0) (by omega); have hfR := qR.out.frozen 0)
            | (clear tk2
               go_at_call 80
               refine (l6Put_any V m d vs x y z _ (hvv.out.up u.out) hm hcap hnil'.out).mono ?_
               rintro e w2 ⟨A2, n2, c2, rfl, v2, cap2, nil2, b2⟩
               have z2 := Lib.hid v2
               have y2 := Lib.hid nil2
               replace u := Lib.hid (u.out.trans (b2.mono u.out.size))
               replace q1 := Lib.hid (rowIs_below q1.out b2 q1.out.lt)
               replace q2 := Lib.hid (rowIs_below q2.out b2 q2.out.lt)
               replace qR := Lib.hid (rowIs_below qR.out b2 qR.out.lt)
               have hcl := Lib.hid (cells_of_votes hvv.out u.out)
               have s0 := Lib.hid (World.ownsRow_made (base := w2.heap.size) (e := 53) (size := 3) w2 #[] 0 (Nat.le_refl _) (by decide) rfl)
               have u0 := Lib.hid (bx_below w2 (.cells #[] 53))
               have hlen2 := Lib.hid v2.1
               have hszW := Lib.hid (show w.heap.size + 3 ≤ w2.heap.size from qR.out.lt)
               clear v2 nil2 b2 hc1 hd0 hd1 hd2 hcR hfR
               have hc1 := q1.out.cell (i := 0) (by omega)
               have hd0 := q2.out.cell (i := 0) (by omega)
               have hd1 := q2.out.cell (i := 1) (by omega)
               have hd2 := q2.out.cell (i := 2) (by omega)
               simp only [Nat.reduceEqDiff, if_true, if_false, Nat.one_ne_zero] at hd0 hd1 hd2
               have hcR := qR.out.cell (i := 0) (by omega)
               have hfR := qR.out.frozen 0
               have hc1a := (rowIs_below q1.out u0.out q1.out.lt).cell (i := 0) (by omega)
               have hn2 : m < n2 := by have a1 := hk1'.out; have a3 := hlen2.out; have a4 := hlv.out; omega
               have hn60 : 60 < n2 := by have a1 := hk2'.out; have a3 := hlen2.out; omega)
            | (clear tk3
               at_builtin
               refine appendSlV _ rfl (.tmp 30) (.tmp 32) 27 rfl w2.heap.size Try.underlying27 _ [] rfl s0.out V m d vs hlv.out rfl hnil'.out (fun ad e t ht => hcl.out ad e t ht _ u0.out) (by simp; omega) (by simp) ?_
               intro v1 w3 o1 g1 a1
               have f1 : Below w2.heap.size w2 w3 := (((Below.refl w2.heap.size w2).alloc (Nat.le_refl _) (.cells #[] 53)).grown g1 (by simp) (fun q e => by cases e; exact Nat.le_refl _))
               rw [List.nil_append] at o1
               obtain ⟨A3, c3, e3, p3⟩ := OwnV.of_owns o1
               rw [hlv.out] at e3 p3
               subst e3
               have kk := bx_below w3 (.cells #[.slice A3 m c3] 29)
               have fs : w2.heap.size ≤ w3.heap.size := f1.size
               have x1 := Lib.hid (bx_row w3 (.slice A3 m c3) 29)
               have hx1 := x1.out.cell (i := 0) (by omega)
               have ff := f1.trans (kk.mono fs)
               have p3' := Lib.hid (p3.below kk)
               replace u := Lib.hid (u.out.trans (ff.mono u.out.size))
               replace q1 := Lib.hid (rowIs_below q1.out ff q1.out.lt)
               replace q2 := Lib.hid (rowIs_below q2.out ff q2.out.lt)
               replace qR := Lib.hid (rowIs_below qR.out ff qR.out.lt)
               have z3 := Lib.hid (z2.out.up ff)
               clear o1 g1 a1 p3 kk f1 hcl s0 u0 z2 hc1 hc1a hd0 hd1 hd2 hcR hfR
               have hc1 := q1.out.cell (i := 0) (by omega)
               have hd0 := q2.out.cell (i := 0) (by omega)
               have hd1 := q2.out.cell (i := 1) (by omega)
               have hd2 := q2.out.cell (i := 2) (by omega)
               simp only [Nat.reduceEqDiff, if_true, if_false, Nat.one_ne_zero] at hd0 hd1 hd2
               have hcR := qR.out.cell (i := 0) (by omega)
               have hfR := qR.out.frozen 0))
          refine bodyPost_ret (results_row3 rfl _ _ (w.heap.size + 2) 29 #[.slice A3 m c3] (0, 0) _ rfl (pl_one_set qR.out _) Try.underlying29 rfl (by kernel_rfl)) rfl ?_
          exact ⟨A3, m, c3, by rw [hok.out, hcd.out]; rfl, by rw [hr.out]; exact (p3'.out.setBox (by have a5 := qR.out.lt; have a6 := hszW.out; omega) _).fewer (by have a6 := hszW.out; omega), u.out.setCell (by show w.heap.size ≤ w.heap.size + 2; omega) _⟩
end Go.Proofs.Ytlobjfipefibaaa
