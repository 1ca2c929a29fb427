/- What is proved here: what the model's l8Within, Trim, FinalView and ActiveIn return. No conditions but lengths. -/
import Derived.Test.YtgdgajgfehjjdabTrimImpl
import Derived.Test.YtgdgajgfehjjdabVotePoolSpec
namespace Go.Proofs.Ytgdgajgfehjjdab
open Go.RowKit

def RetVs' (w : World) (vs : List Vt) (e : Ending) (w' : World) : Prop :=
  ∃ A n c, e = .returned (.slice A n c) ∧ OwnV w' w.heap.size A n vs ∧ Below w.heap.size w w'
theorem l8Now_any (now keep : Int) (w : World) : Calls Try.prog 90 #[.int .i64 now, .int .i64 keep] w fun e w' => e = .returned (.bool (nowB now && keepB keep)) ∧ w = w' := by
  cases h1 : nowB now
  · have h1' : inB now 1 4000 = false := h1
    go_enter Try.func90, Try.ntmps90
    go_wp2_with (go_at_call 104; refine (l1In_any _ _ _ _).mono ?_; rintro e w' ⟨rfl, rfl⟩; rw [h1'])
    go_ret
    exact ⟨ret_bool (by simp), rfl⟩
  · have h1' : inB now 1 4000 = true := h1
    cases h2 : keepB keep
    all_goals
      have h2' := h2
      unfold keepB at h2'
      go_enter Try.func90, Try.ntmps90
      have tk0 : True := trivial
      go_wp2_with (first
        | (clear tk0; go_at_call 104; refine (l1In_any now 1 4000 _).mono ?_; rintro e w' ⟨rfl, rfl⟩; rw [h1'])
        | (go_at_call 104; refine (l1In_any keep 1 100 _).mono ?_; rintro e w' ⟨rfl, rfl⟩; rw [h2']))
      go_ret
      exact ⟨ret_bool (by simp), rfl⟩

set_option maxRecDepth 100000 in
set_option maxHeartbeats 1600000 in
theorem l8Within_any (V : Option Addr) (m d : Nat) (vs : List Vt) (lo hi : Int) (w : World) (hv : VotesAt w w.heap.size V m vs) (hm : m ≤ 60) :
    Calls Try.prog 91 #[.slice V m d, .int .i64 lo, .int .i64 hi] w (RetVs' w (vs.filter (witP lo hi))) := by
  have hlv := Lib.hid hv.1
  have hvv := Lib.hid hv; clear hv
  go_enter Try.func91, Try.ntmps91
  go_wp2_with fail
  go_loopw [7, 9, 12] (fun o _ i wr => ∃ k : Nat, k ≤ m ∧ i = .int .i64 k ∧ Hid (wr.ownsRow w.heap.size 37 3 o ((vs.take k).filter (witP lo hi)).length (flatV ((vs.take k).filter (witP lo hi)))) ∧ Hid (Below w.heap.size w wr)) (fun _ _ i _ => m - (intOf i).toNat)
  case atStart => exact ⟨0, Nat.zero_le _, rfl, Lib.hid (World.ownsRow_nil _ _ _ _), Lib.hid (Below.refl _ _)⟩
  case round =>
    obtain ⟨k, hk, rfl, ho, hbel⟩ := hrel
    have hws := hbel.out.size
    have hfl := filter_len (witP lo hi) (vs := vs) (k := k) (by rw [hlv.out]; exact hk)
    by_cases hlt : k < m
    · obtain ⟨vb, vo, rfl, hvb, e0', e1', e2'⟩ := hvv.out.2 k hlt
      have e0 := (hbel.out.cell (p := ⟨vb, vo + k * 3, none⟩) hvb).trans e0'
      have e1 := (hbel.out.cell (p := ⟨vb, vo + k * 3 + 1, none⟩) hvb).trans e1'
      have e2 := (hbel.out.cell (p := ⟨vb, vo + k * 3 + 2, none⟩) hvb).trans e2'
      have hstep := Lib.hid (filter_step (witP lo hi) (vs := vs) (k := k) (by rw [hlv.out]; exact hlt))
      obtain ⟨v, hvk⟩ : ∃ v, getV vs k = v := ⟨_, rfl⟩
      rw [hvk] at e0 e1 e2 hstep
      obtain ⟨x, y, z⟩ := v
      simp only at e0 e1 e2
      have hb1 := bx_below wr (.cells #[.int .i64 x, .int .i64 y, .int .i64 z] 37)
      have r3 := three_cells wr x y z 37
      obtain ⟨W, hW⟩ : ∃ W, wr.alloc (.cells #[.int .i64 x, .int .i64 y, .int .i64 z] 37) = W := ⟨_, rfl⟩
      have oE := Lib.hid (ownsV_belowW ho.out hb1)
      have uE := Lib.hid (hbel.out.trans (hb1.mono hws))
      rw [hW] at hb1 r3
      have f0 := r3.cell (i := 0) (by omega)
      have f1 := r3.cell (i := 1) (by omega)
      have f2 := r3.cell (i := 2) (by omega)
      simp only [if_true, if_false, show (1 : Nat) ≠ 0 by decide, show (2 : Nat) ≠ 0 by decide, show (2 : Nat) ≠ 1 by decide] at f0 f1 f2
      have hW' := Lib.hid hW
      have u1 := Lib.hid (hbel.out.trans (hb1.mono hws))
      have o1 := Lib.hid (ownsV_belowW ho.out hb1)
      have hws1 : w.heap.size ≤ W.heap.size := u1.out.size
      have hpd := Lib.hid (show witP lo hi (x, y, z) = (decide (lo ≤ y) && decide (y < hi)) from rfl)
      clear hW hb1 r3 e0' e1' e2' hvk
      by_cases g1 : lo ≤ y
      · by_cases g2 : y < hi
        · have hnx := Lib.hid (show (vs.take (k + 1)).filter (witP lo hi) = (vs.take k).filter (witP lo hi) ++ [(x, y, z)] by rw [hstep.out, hpd.out, decide_eq_true g1, decide_eq_true g2]; rfl)
          have hbox := three_cells (wr.alloc (.cells #[.int .i64 x, .int .i64 y, .int .i64 z] 37)) x y z 37
          rw [show (wr.alloc (.cells #[.int .i64 x, .int .i64 y, .int .i64 z] 37)).heap.size = wr.heap.size + 1 by simp] at hbox
          have g0' := hbox.cell (i := 0) (by omega)
          have g1' := hbox.cell (i := 1) (by omega)
          have g2' := hbox.cell (i := 2) (by omega)
          simp only [if_true, if_false, show (1 : Nat) ≠ 0 by decide, show (2 : Nat) ≠ 0 by decide, show (2 : Nat) ≠ 1 by decide] at g0' g1' g2'
          have F0 := Lib.hid g0'; have F1 := Lib.hid g1'; have F2 := Lib.hid g2'
          clear hbox g0' g1' g2'
          go_wp2_with (at_builtin; refine appendVt _ rfl _ _ 25 rfl w.heap.size Try.underlying25 _ ((vs.take k).filter (witP lo hi)) rfl (oE.out.alloc _) (wr.heap.size + 1) 1 x y z rfl F0.out F1.out F2.out (by omega) (by simp; omega) ?_; intro g c9 w9 r1 r2 r3; have z1 := Lib.hid r1; have z2 := Lib.hid r2; clear r1 r2 r3)
          have u9 := Lib.hid ((uE.out.alloc uE.out.size (.cells #[.int .i64 x, .int .i64 y, .int .i64 z] 37)).grown z2.out (by simp; omega) (fun j e => ((oE.out.alloc (.cells #[.int .i64 x, .int .i64 y, .int .i64 z] 37)).lt j e).1))
          go_roundw
          case rel => exact ⟨k + 1, by omega, by go_num, Lib.hid (by rw [hnx.out]; simpa using z1.out), u9⟩
          case measure => simp [intOf]; omega
        · have hnx := Lib.hid (show (vs.take (k + 1)).filter (witP lo hi) = (vs.take k).filter (witP lo hi) by rw [hstep.out, hpd.out, decide_eq_false g2]; simp)
          go_wp2_with fail
          rw [hW'.out]
          go_wp2_with fail
          go_roundw
          case rel => exact ⟨k + 1, by omega, by go_num, Lib.hid (by rw [hnx.out]; exact o1.out), u1⟩
          case measure => simp [intOf]; omega
      · have hnx := Lib.hid (show (vs.take (k + 1)).filter (witP lo hi) = (vs.take k).filter (witP lo hi) by rw [hstep.out, hpd.out, decide_eq_false g1]; simp)
        go_wp2_with fail
        rw [hW'.out]
        go_wp2_with fail
        go_roundw
        case rel => exact ⟨k + 1, by omega, by go_num, Lib.hid (by rw [hnx.out]; exact o1.out), u1⟩
        case measure => simp [intOf]; omega
    · have hke := Lib.hid (filter_end (witP lo hi) (vs := vs) (k := k) (by rw [hlv.out]; omega))
      go_wp2_with fail
      go_ret
      obtain ⟨A', c', e, hown⟩ := OwnV.of_owns ho.out
      rw [hke.out] at e hown
      exact ⟨A', _, c', by rw [e]; rfl, hown, hbel.out⟩

set_option maxRecDepth 100000 in
set_option maxHeartbeats 1600000 in
theorem specTrim_any (A : Option Addr) (n c : Nat) (ts : List Blk) (A' : Option Addr) (n' c' : Nat) (ss : List Int) (V : Option Addr) (m d : Nat) (vs : List Vt) (now : Int) (keep : Int) (w : World) (h : BlksAt w w.heap.size A n ts) (h' : IntsAt w w.heap.size A' n' ss) (hv : VotesAt w w.heap.size V m vs) (hn : n ≤ 1048576) (hn' : n' ≤ 1048576) (hm : m ≤ 1048576) :
    Calls Try.prog 39 #[.slice A n c, .slice A' n' c', .agg #[.slice V m d], .int .i64 now, .int .i64 keep] w (RetPool w (trimOK ts ss vs now keep) (trimR ts ss vs now keep)) := by
  have hlv := Lib.hid hv.1
  have hh := Lib.hid h; have hh' := Lib.hid h'; have hvv := Lib.hid hv; clear h h' hv
  have hmf : ∀ (fn : Fn) (first cap : Array Value) (w : World), (Instr.makeFunc fn first cap).run Try.prog w = .ok (.func fn first cap) w := fun _ _ _ _ => rfl
  obtain ⟨r1, rR, bW, sW⟩ := bx2_rows w (.slice V m d) (.slice none 0 0) 27 27
  have hc1 := r1.cell (i := 0) (by omega)
  have q1 := Lib.hid r1
  have qR := Lib.hid rR; have u := Lib.hid bW
  clear bW sW rR r1
  cases hg : poolOk ts ss vs
  · skip
    have hok := Lib.hid (show (trimOK ts ss vs now keep) = false by unfold trimOK; rw [hg]; rfl)
    have hr := Lib.hid (show (trimR ts ss vs now keep) = [] by unfold trimR; rw [if_neg (by rw [hok.out]; decide)])
    go_enter Try.func39, Try.ntmps39
    go_wp2_with (first
      | (go_at_call 89; refine (specGoodPool_any A n c ts A' n' c' ss V m d vs _ (hh.out.up u.out) (hh'.out.up' u.out) (hvv.out.up u.out) hn hn' hm).mono ?_; rintro e w1 ⟨rfl, b1⟩; rw [hg]; replace u := Lib.hid (u.out.trans (b1.mono u.out.size)); replace q1 := Lib.hid (rowIs_below q1.out b1 q1.out.lt); replace qR := Lib.hid (rowIs_below qR.out b1 qR.out.lt); clear b1 hc1; have hc1 := q1.out.cell (i := 0) (by omega); have hcR := qR.out.cell (i := 0) (by omega); have hfR := qR.out.frozen 0))
    refine bodyPost_ret (results_row2 rfl _ _ (w.heap.size + 1) 27 #[.slice none 0 0] (0, 0) _ rfl (pl_one_set qR.out _) Try.underlying27 rfl (by kernel_rfl)) rfl ?_
    exact ⟨none, 0, 0, by rw [hok.out]; rfl, by rw [hr.out]; exact OwnV.nil _ _, u.out.setCell (by show w.heap.size ≤ w.heap.size + 1; omega) _⟩
  · skip
    cases hnk : (nowB now && keepB keep)
    · skip
      have hok := Lib.hid (show (trimOK ts ss vs now keep) = false by unfold trimOK; rw [hnk]; simp)
      have hr := Lib.hid (show (trimR ts ss vs now keep) = [] by unfold trimR; rw [if_neg (by rw [hok.out]; decide)])
      go_enter Try.func39, Try.ntmps39
      go_wp2_with (first
        | (go_at_call 89; refine (specGoodPool_any A n c ts A' n' c' ss V m d vs _ (hh.out.up u.out) (hh'.out.up' u.out) (hvv.out.up u.out) hn hn' hm).mono ?_; rintro e w1 ⟨rfl, b1⟩; rw [hg]; replace u := Lib.hid (u.out.trans (b1.mono u.out.size)); replace q1 := Lib.hid (rowIs_below q1.out b1 q1.out.lt); replace qR := Lib.hid (rowIs_below qR.out b1 qR.out.lt); clear b1 hc1; have hc1 := q1.out.cell (i := 0) (by omega); have hcR := qR.out.cell (i := 0) (by omega); have hfR := qR.out.frozen 0)
        | (go_at_call 90; refine (l8Now_any now keep _).mono ?_; rintro e w2 ⟨rfl, rfl⟩; rw [hnk]))
      refine bodyPost_ret (results_row2 rfl _ _ (w.heap.size + 1) 27 #[.slice none 0 0] (0, 0) _ rfl (pl_one_set qR.out _) Try.underlying27 rfl (by kernel_rfl)) rfl ?_
      exact ⟨none, 0, 0, by rw [hok.out]; rfl, by rw [hr.out]; exact OwnV.nil _ _, u.out.setCell (by show w.heap.size ≤ w.heap.size + 1; omega) _⟩
    · skip
      have hok := Lib.hid (show (trimOK ts ss vs now keep) = true by unfold trimOK; rw [hg, hnk]; rfl)
      have hr := Lib.hid (show (trimR ts ss vs now keep) = vs.filter (witP (now - keep) 4001) by unfold trimR; rw [if_pos hok.out]; exact (wit_trim hg now keep).symm)
      have hm60 : m ≤ 60 := by rw [← hlv.out]; exact (poolOk_iff.1 hg).1.2
      have bnk := (trimOK_iff.1 hok.out).2
      go_enter Try.func39, Try.ntmps39
      go_wp2_with (first
        | (go_at_call 89; refine (specGoodPool_any A n c ts A' n' c' ss V m d vs _ (hh.out.up u.out) (hh'.out.up' u.out) (hvv.out.up u.out) hn hn' hm).mono ?_; rintro e w1 ⟨rfl, b1⟩; rw [hg]; replace u := Lib.hid (u.out.trans (b1.mono u.out.size)); replace q1 := Lib.hid (rowIs_below q1.out b1 q1.out.lt); replace qR := Lib.hid (rowIs_below qR.out b1 qR.out.lt); clear b1 hc1; have hc1 := q1.out.cell (i := 0) (by omega); have hcR := qR.out.cell (i := 0) (by omega); have hfR := qR.out.frozen 0)
        | (go_at_call 90; refine (l8Now_any now keep _).mono ?_; rintro e w2 ⟨rfl, rfl⟩; rw [hnk])
        | (go_at_call 91
           refine (l8Within_any V m d vs (now - keep) (4001) _ (hvv.out.up u.out) hm60).mono ?_
           rintro e w3 ⟨A3, n3, c3, rfl, o3, b3⟩
           have o4 := Lib.hid o3
           have lR := Lib.hid qR.out.lt
           replace u := Lib.hid (u.out.trans (b3.mono u.out.size))
           replace qR := Lib.hid (rowIs_below qR.out b3 qR.out.lt)
           clear hcR hfR o3 b3 hc1
           have hcR := qR.out.cell (i := 0) (by omega)
           have hfR := qR.out.frozen 0))
      refine bodyPost_ret (results_row2 rfl _ _ (w.heap.size + 1) 27 #[.slice A3 n3 c3] (0, 0) _ rfl (pl_one_set qR.out _) Try.underlying27 rfl (by kernel_rfl)) rfl ?_
      exact ⟨A3, n3, c3, by rw [hok.out]; rfl, by rw [hr.out]; exact (o4.out.setBox lR.out _).fewer (by have := lR.out; omega), u.out.setCell (by show w.heap.size ≤ w.heap.size + 1; omega) _⟩

set_option maxRecDepth 100000 in
set_option maxHeartbeats 1600000 in
theorem specFinal_any (A : Option Addr) (n c : Nat) (ts : List Blk) (A' : Option Addr) (n' c' : Nat) (ss : List Int) (V : Option Addr) (m d : Nat) (vs : List Vt) (now : Int) (w : World) (h : BlksAt w w.heap.size A n ts) (h' : IntsAt w w.heap.size A' n' ss) (hv : VotesAt w w.heap.size V m vs) (hn : n ≤ 1048576) (hn' : n' ≤ 1048576) (hm : m ≤ 1048576) :
    Calls Try.prog 30 #[.slice A n c, .slice A' n' c', .agg #[.slice V m d], .int .i64 now] w (RetPool w (finOK ts ss vs now) (finR ts ss vs now)) := by
  have hlv := Lib.hid hv.1
  have hh := Lib.hid h; have hh' := Lib.hid h'; have hvv := Lib.hid hv; clear h h' hv
  have hmf : ∀ (fn : Fn) (first cap : Array Value) (w : World), (Instr.makeFunc fn first cap).run Try.prog w = .ok (.func fn first cap) w := fun _ _ _ _ => rfl
  obtain ⟨r1, rR, bW, sW⟩ := bx2_rows w (.slice V m d) (.slice none 0 0) 27 27
  have hc1 := r1.cell (i := 0) (by omega)
  have q1 := Lib.hid r1
  have qR := Lib.hid rR; have u := Lib.hid bW
  clear bW sW rR r1
  cases hg : poolOk ts ss vs
  · skip
    have hok := Lib.hid (show (finOK ts ss vs now) = false by unfold finOK; rw [hg]; rfl)
    have hr := Lib.hid (show (finR ts ss vs now) = [] by unfold finR; rw [if_neg (by rw [hok.out]; decide)])
    go_enter Try.func30, Try.ntmps30
    go_wp2_with (first
      | (go_at_call 89; refine (specGoodPool_any A n c ts A' n' c' ss V m d vs _ (hh.out.up u.out) (hh'.out.up' u.out) (hvv.out.up u.out) hn hn' hm).mono ?_; rintro e w1 ⟨rfl, b1⟩; rw [hg]; replace u := Lib.hid (u.out.trans (b1.mono u.out.size)); replace q1 := Lib.hid (rowIs_below q1.out b1 q1.out.lt); replace qR := Lib.hid (rowIs_below qR.out b1 qR.out.lt); clear b1 hc1; have hc1 := q1.out.cell (i := 0) (by omega); have hcR := qR.out.cell (i := 0) (by omega); have hfR := qR.out.frozen 0))
    refine bodyPost_ret (results_row2 rfl _ _ (w.heap.size + 1) 27 #[.slice none 0 0] (0, 0) _ rfl (pl_one_set qR.out _) Try.underlying27 rfl (by kernel_rfl)) rfl ?_
    exact ⟨none, 0, 0, by rw [hok.out]; rfl, by rw [hr.out]; exact OwnV.nil _ _, u.out.setCell (by show w.heap.size ≤ w.heap.size + 1; omega) _⟩
  · skip
    cases hnow : nowB now
    · skip
      have hok := Lib.hid (show (finOK ts ss vs now) = false by unfold finOK; rw [hnow]; simp)
      have hr := Lib.hid (show (finR ts ss vs now) = [] by unfold finR; rw [if_neg (by rw [hok.out]; decide)])
      go_enter Try.func30, Try.ntmps30
      go_wp2_with (first
        | (go_at_call 89; refine (specGoodPool_any A n c ts A' n' c' ss V m d vs _ (hh.out.up u.out) (hh'.out.up' u.out) (hvv.out.up u.out) hn hn' hm).mono ?_; rintro e w1 ⟨rfl, b1⟩; rw [hg]; replace u := Lib.hid (u.out.trans (b1.mono u.out.size)); replace q1 := Lib.hid (rowIs_below q1.out b1 q1.out.lt); replace qR := Lib.hid (rowIs_below qR.out b1 qR.out.lt); clear b1 hc1; have hc1 := q1.out.cell (i := 0) (by omega); have hcR := qR.out.cell (i := 0) (by omega); have hfR := qR.out.frozen 0)
        | (go_at_call 104; refine (l1In_any now 1 4000 _).mono ?_; rintro e w2 ⟨rfl, rfl⟩; rw [show inB now 1 4000 = nowB now from rfl, hnow]))
      refine bodyPost_ret (results_row2 rfl _ _ (w.heap.size + 1) 27 #[.slice none 0 0] (0, 0) _ rfl (pl_one_set qR.out _) Try.underlying27 rfl (by kernel_rfl)) rfl ?_
      exact ⟨none, 0, 0, by rw [hok.out]; rfl, by rw [hr.out]; exact OwnV.nil _ _, u.out.setCell (by show w.heap.size ≤ w.heap.size + 1; omega) _⟩
    · skip
      have hok := Lib.hid (show (finOK ts ss vs now) = true by unfold finOK; rw [hg, hnow]; rfl)
      have hr := Lib.hid (show (finR ts ss vs now) = vs.filter (witP 0 now) by unfold finR; rw [if_pos hok.out]; exact (wit_fin hg now).symm)
      have hm60 : m ≤ 60 := by rw [← hlv.out]; exact (poolOk_iff.1 hg).1.2
      skip
      go_enter Try.func30, Try.ntmps30
      go_wp2_with (first
        | (go_at_call 89; refine (specGoodPool_any A n c ts A' n' c' ss V m d vs _ (hh.out.up u.out) (hh'.out.up' u.out) (hvv.out.up u.out) hn hn' hm).mono ?_; rintro e w1 ⟨rfl, b1⟩; rw [hg]; replace u := Lib.hid (u.out.trans (b1.mono u.out.size)); replace q1 := Lib.hid (rowIs_below q1.out b1 q1.out.lt); replace qR := Lib.hid (rowIs_below qR.out b1 qR.out.lt); clear b1 hc1; have hc1 := q1.out.cell (i := 0) (by omega); have hcR := qR.out.cell (i := 0) (by omega); have hfR := qR.out.frozen 0)
        | (go_at_call 104; refine (l1In_any now 1 4000 _).mono ?_; rintro e w2 ⟨rfl, rfl⟩; rw [show inB now 1 4000 = nowB now from rfl, hnow])
        | (go_at_call 91
           refine (l8Within_any V m d vs (0) (now) _ (hvv.out.up u.out) hm60).mono ?_
           rintro e w3 ⟨A3, n3, c3, rfl, o3, b3⟩
           have o4 := Lib.hid o3
           have lR := Lib.hid qR.out.lt
           replace u := Lib.hid (u.out.trans (b3.mono u.out.size))
           replace qR := Lib.hid (rowIs_below qR.out b3 qR.out.lt)
           clear hcR hfR o3 b3 hc1
           have hcR := qR.out.cell (i := 0) (by omega)
           have hfR := qR.out.frozen 0))
      refine bodyPost_ret (results_row2 rfl _ _ (w.heap.size + 1) 27 #[.slice A3 n3 c3] (0, 0) _ rfl (pl_one_set qR.out _) Try.underlying27 rfl (by kernel_rfl)) rfl ?_
      exact ⟨A3, n3, c3, by rw [hok.out]; rfl, by rw [hr.out]; exact (o4.out.setBox lR.out _).fewer (by have := lR.out; omega), u.out.setCell (by show w.heap.size ≤ w.heap.size + 1; omega) _⟩

set_option maxRecDepth 100000 in
set_option maxHeartbeats 1600000 in
theorem specActive_any (A : Option Addr) (n c : Nat) (ts : List Blk) (A' : Option Addr) (n' c' : Nat) (ss : List Int) (V : Option Addr) (m d : Nat) (vs : List Vt) (now : Int) (keep : Int) (w : World) (h : BlksAt w w.heap.size A n ts) (h' : IntsAt w w.heap.size A' n' ss) (hv : VotesAt w w.heap.size V m vs) (hn : n ≤ 1048576) (hn' : n' ≤ 1048576) (hm : m ≤ 1048576) :
    Calls Try.prog 17 #[.slice A n c, .slice A' n' c', .agg #[.slice V m d], .int .i64 now, .int .i64 keep] w (RetPool w (trimOK ts ss vs now keep) (actR ts ss vs now keep)) := by
  have hlv := Lib.hid hv.1
  have hh := Lib.hid h; have hh' := Lib.hid h'; have hvv := Lib.hid hv; clear h h' hv
  have hmf : ∀ (fn : Fn) (first cap : Array Value) (w : World), (Instr.makeFunc fn first cap).run Try.prog w = .ok (.func fn first cap) w := fun _ _ _ _ => rfl
  obtain ⟨r1, rR, bW, sW⟩ := bx2_rows w (.slice V m d) (.slice none 0 0) 27 27
  have hc1 := r1.cell (i := 0) (by omega)
  have q1 := Lib.hid r1
  have qR := Lib.hid rR; have u := Lib.hid bW
  clear bW sW rR r1
  cases hg : poolOk ts ss vs
  · skip
    have hok := Lib.hid (show (trimOK ts ss vs now keep) = false by unfold trimOK; rw [hg]; rfl)
    have hr := Lib.hid (show (actR ts ss vs now keep) = [] by unfold actR; rw [if_neg (by rw [hok.out]; decide)])
    go_enter Try.func17, Try.ntmps17
    go_wp2_with (first
      | (go_at_call 89; refine (specGoodPool_any A n c ts A' n' c' ss V m d vs _ (hh.out.up u.out) (hh'.out.up' u.out) (hvv.out.up u.out) hn hn' hm).mono ?_; rintro e w1 ⟨rfl, b1⟩; rw [hg]; replace u := Lib.hid (u.out.trans (b1.mono u.out.size)); replace q1 := Lib.hid (rowIs_below q1.out b1 q1.out.lt); replace qR := Lib.hid (rowIs_below qR.out b1 qR.out.lt); clear b1 hc1; have hc1 := q1.out.cell (i := 0) (by omega); have hcR := qR.out.cell (i := 0) (by omega); have hfR := qR.out.frozen 0))
    refine bodyPost_ret (results_row2 rfl _ _ (w.heap.size + 1) 27 #[.slice none 0 0] (0, 0) _ rfl (pl_one_set qR.out _) Try.underlying27 rfl (by kernel_rfl)) rfl ?_
    exact ⟨none, 0, 0, by rw [hok.out]; rfl, by rw [hr.out]; exact OwnV.nil _ _, u.out.setCell (by show w.heap.size ≤ w.heap.size + 1; omega) _⟩
  · skip
    cases hnk : (nowB now && keepB keep)
    · skip
      have hok := Lib.hid (show (trimOK ts ss vs now keep) = false by unfold trimOK; rw [hnk]; simp)
      have hr := Lib.hid (show (actR ts ss vs now keep) = [] by unfold actR; rw [if_neg (by rw [hok.out]; decide)])
      go_enter Try.func17, Try.ntmps17
      go_wp2_with (first
        | (go_at_call 89; refine (specGoodPool_any A n c ts A' n' c' ss V m d vs _ (hh.out.up u.out) (hh'.out.up' u.out) (hvv.out.up u.out) hn hn' hm).mono ?_; rintro e w1 ⟨rfl, b1⟩; rw [hg]; replace u := Lib.hid (u.out.trans (b1.mono u.out.size)); replace q1 := Lib.hid (rowIs_below q1.out b1 q1.out.lt); replace qR := Lib.hid (rowIs_below qR.out b1 qR.out.lt); clear b1 hc1; have hc1 := q1.out.cell (i := 0) (by omega); have hcR := qR.out.cell (i := 0) (by omega); have hfR := qR.out.frozen 0)
        | (go_at_call 90; refine (l8Now_any now keep _).mono ?_; rintro e w2 ⟨rfl, rfl⟩; rw [hnk]))
      refine bodyPost_ret (results_row2 rfl _ _ (w.heap.size + 1) 27 #[.slice none 0 0] (0, 0) _ rfl (pl_one_set qR.out _) Try.underlying27 rfl (by kernel_rfl)) rfl ?_
      exact ⟨none, 0, 0, by rw [hok.out]; rfl, by rw [hr.out]; exact OwnV.nil _ _, u.out.setCell (by show w.heap.size ≤ w.heap.size + 1; omega) _⟩
    · skip
      have hok := Lib.hid (show (trimOK ts ss vs now keep) = true by unfold trimOK; rw [hg, hnk]; rfl)
      have hr := Lib.hid (show (actR ts ss vs now keep) = vs.filter (witP (now - keep) now) by unfold actR; rw [if_pos hok.out])
      have hm60 : m ≤ 60 := by rw [← hlv.out]; exact (poolOk_iff.1 hg).1.2
      have bnk := (trimOK_iff.1 hok.out).2
      go_enter Try.func17, Try.ntmps17
      go_wp2_with (first
        | (go_at_call 89; refine (specGoodPool_any A n c ts A' n' c' ss V m d vs _ (hh.out.up u.out) (hh'.out.up' u.out) (hvv.out.up u.out) hn hn' hm).mono ?_; rintro e w1 ⟨rfl, b1⟩; rw [hg]; replace u := Lib.hid (u.out.trans (b1.mono u.out.size)); replace q1 := Lib.hid (rowIs_below q1.out b1 q1.out.lt); replace qR := Lib.hid (rowIs_below qR.out b1 qR.out.lt); clear b1 hc1; have hc1 := q1.out.cell (i := 0) (by omega); have hcR := qR.out.cell (i := 0) (by omega); have hfR := qR.out.frozen 0)
        | (go_at_call 90; refine (l8Now_any now keep _).mono ?_; rintro e w2 ⟨rfl, rfl⟩; rw [hnk])
        | (go_at_call 91
           refine (l8Within_any V m d vs (now - keep) (now) _ (hvv.out.up u.out) hm60).mono ?_
           rintro e w3 ⟨A3, n3, c3, rfl, o3, b3⟩
           have o4 := Lib.hid o3
           have lR := Lib.hid qR.out.lt
           replace u := Lib.hid (u.out.trans (b3.mono u.out.size))
           replace qR := Lib.hid (rowIs_below qR.out b3 qR.out.lt)
           clear hcR hfR o3 b3 hc1
           have hcR := qR.out.cell (i := 0) (by omega)
           have hfR := qR.out.frozen 0))
      refine bodyPost_ret (results_row2 rfl _ _ (w.heap.size + 1) 27 #[.slice A3 n3 c3] (0, 0) _ rfl (pl_one_set qR.out _) Try.underlying27 rfl (by kernel_rfl)) rfl ?_
      exact ⟨A3, n3, c3, by rw [hok.out]; rfl, by rw [hr.out]; exact (o4.out.setBox lR.out _).fewer (by have := lR.out; omega), u.out.setCell (by show w.heap.size ≤ w.heap.size + 1; omega) _⟩

end Go.Proofs.Ytgdgajgfehjjdab
