/- What is proved here: what the model's WhoLinks and IsLinked return. No conditions but lengths. -/
import Derived.Test.YthiegfbdmmpabaaLinkSpec
import Derived.Test.YthiegfbdmmpabaaPutWalk
namespace Go.Proofs.Ythiegfbdmmpabaa
open Go.RowKit

theorem whoS_end {ls : List Vt} {f t : Int} {k m : Nat} (hl : ls.length = m) (hk : k = m) : whoS ls f t k = whoL ls f t := by
  unfold whoL; rw [hl, hk]
theorem owns_belowL {w w' : World} {B : Nat} {v : Value} {n : Nat} {xs : List Value} (h : w.ownsRow B 3 1 v n xs) (hb : Below w.heap.size w w') : w'.ownsRow B 3 1 v n xs := by
  refine ⟨h.1, ?_⟩
  rcases h.2 with h' | ⟨g, cap, cur, e, h1, h2, h3⟩
  · exact .inl h'
  · exact .inr ⟨g, cap, cur, e, h1, (hb.block g (Array.getElem?_eq_some_iff.1 h2).1).trans h2, h3⟩

set_option maxRecDepth 100000 in
set_option maxHeartbeats 1600000 in
theorem l10Who_any (V : Option Addr) (m d : Nat) (vs : List Vt) (f t : Int) (w : World) (hv : VotesAt w w.heap.size V m vs) (hm : m ≤ 40) :
    Calls Try.prog 89 #[.slice V m d, .int .i64 f, .int .i64 t] w (RetSl w (whoL vs f t)) := by
  have hlv := Lib.hid hv.1
  have hvv := Lib.hid hv; clear hv
  go_enter Try.func89, Try.ntmps89
  go_wp2_with fail
  go_loopw [7, 9, 12] (fun o _ i wr => ∃ k : Nat, k ≤ m ∧ i = .int .i64 k ∧ Hid (wr.ownsRow w.heap.size 3 1 o (whoS vs f t k).length ((whoS vs f t k).map (Value.int .i64))) ∧ Hid (Below w.heap.size w wr)) (fun _ _ i _ => m - (intOf i).toNat)
  case atStart => exact ⟨0, Nat.zero_le _, rfl, Lib.hid (World.ownsRow_nil _ _ _ _), Lib.hid (Below.refl _ _)⟩
  case round =>
    obtain ⟨k, hk, rfl, ho, hbel⟩ := hrel
    by_cases hlt : k < m
    · obtain ⟨vb, vo, rfl, hvb, q0, q1, q2⟩ := hvv.out.2 k hlt
      have c0 := (hbel.out.cell (p := ⟨vb, vo + k * 3, none⟩) hvb).trans q0
      have c1 := (hbel.out.cell (p := ⟨vb, vo + k * 3 + 1, none⟩) hvb).trans q1
      have c2 := (hbel.out.cell (p := ⟨vb, vo + k * 3 + 2, none⟩) hvb).trans q2
      obtain ⟨v, hvk⟩ : ∃ v, getV vs k = v := ⟨_, rfl⟩
      rw [hvk] at c0 c1 c2
      obtain ⟨x, y, z⟩ := v
      simp only at c0 c1 c2
      have hb1 := bx_below wr (.cells #[.int .i64 x, .int .i64 y, .int .i64 z] 93)
      have r3 := three_cells wr x y z 93
      obtain ⟨W, hW⟩ : ∃ W, wr.alloc (.cells #[.int .i64 x, .int .i64 y, .int .i64 z] 93) = W := ⟨_, rfl⟩
      rw [hW] at hb1 r3
      have hW' := Lib.hid hW
      have u1 := Lib.hid (hbel.out.trans (hb1.mono hbel.out.size))
      have o1 := Lib.hid (owns_belowL ho.out hb1)
      have e0 := r3.cell (i := 0) (by omega)
      have e1 := r3.cell (i := 1) (by omega)
      have e2 := r3.cell (i := 2) (by omega)
      simp only [if_true, if_false, show (1 : Nat) ≠ 0 by decide, show (2 : Nat) ≠ 0 by decide, show (2 : Nat) ≠ 1 by decide] at e0 e1 e2
      have hst := Lib.hid (show whoS vs f t (k + 1) = if (y == f && z == t) = true then putL (whoS vs f t k) x else whoS vs f t k by simp only [whoS]; rw [hvk]; rfl)
      have hpl := whoS_len vs f t k
      clear hW hb1 r3 hvk q0 q1 q2
      cases g1 : (y == f)
      · have hnx := Lib.hid (show whoS vs f t (k + 1) = whoS vs f t k by rw [hst.out, g1]; rfl)
        go_wp2_with fail
        rw [hW'.out]
        go_wp2_with fail
        go_roundw
        case rel => exact ⟨k + 1, by omega, by go_num, Lib.hid (by rw [hnx.out]; exact o1.out), u1⟩
        case measure => simp [intOf]; omega
      · cases g2 : (z == t)
        · have hnx := Lib.hid (show whoS vs f t (k + 1) = whoS vs f t k by rw [hst.out, g1, g2]; rfl)
          go_wp2_with fail
          rw [hW'.out]
          go_wp2_with fail
          go_roundw
          case rel => exact ⟨k + 1, by omega, by go_num, Lib.hid (by rw [hnx.out]; exact o1.out), u1⟩
          case measure => simp [intOf]; omega
        · have hnx := Lib.hid (show whoS vs f t (k + 1) = putL (whoS vs f t k) x by rw [hst.out, g1, g2]; rfl)
          have hput := Lib.hid (l1Put_any _ (whoS vs f t k) x w.heap.size W o1.out (by omega) u1.out.size)
          go_wp2_with fail
          rw [hW'.out]
          go_wp2_with fail
          refine hput.out.mono ?_
          rintro e w3 ⟨v3, rfl, r1, b3⟩
          have z1 := Lib.hid r1
          have u3 := Lib.hid (u1.out.trans (b3.mono u1.out.size))
          clear r1 b3 hput
          go_wp2_with fail
          go_roundw
          case rel => exact ⟨k + 1, by omega, by go_num, Lib.hid (by rw [hnx.out]; exact z1.out), u3⟩
          case measure => simp [intOf]; omega
    · have hkn : k = m := by omega
      have he := Lib.hid (whoS_end (f := f) (t := t) hlv.out hkn)
      have ho' := Lib.hid (show wr.ownsRow w.heap.size 3 1 _ (whoL vs f t).length ((whoL vs f t).map (Value.int .i64)) by rw [he.out] at ho; exact ho.out)
      clear hkn
      go_wp2_with fail
      go_ret
      obtain ⟨A', c', e, hown⟩ := OwnAt.of_owns ho'.out
      exact ⟨A', _, c', by rw [e]; rfl, hown, hbel.out⟩

theorem ask_parts {ts : List Blk} {ss : List Int} {ls : List Vt} {n : Nat} (hl : ts.length = n) (h : linksOk ts ss ls = true) (f t : Int) : askOK ts ss ls f t = (inB f 0 ((n : Int) - 1) && inB t 0 ((n : Int) - 1)) := by
  have hg := goodT_iff.2 (linksOk_iff.1 h).1.1.1
  unfold askOK okK
  rw [h, hg, hl]
  simp
set_option maxRecDepth 100000 in
set_option maxHeartbeats 800000 in
theorem l10Asked_any (A : Option Addr) (n c : Nat) (ts : List Blk) (A' : Option Addr) (n' c' : Nat) (ss : List Int) (V : Option Addr) (m d : Nat) (vs : List Vt) (f t : Int) (w : World) (h : BlksAt w w.heap.size A n ts) (h' : IntsAt w w.heap.size A' n' ss) (hv : VotesAt w w.heap.size V m vs) (hn : n ≤ 1048576) (hn' : n' ≤ 1048576) (hm : m ≤ 1048576) :
    Calls Try.prog 88 #[.slice A n c, .slice A' n' c', .slice V m d, .int .i64 f, .int .i64 t] w (UpPost w (.bool (askOK ts ss vs f t))) := by
  have hl := Lib.hid h.1
  have hgl := Lib.hid (specGoodLinks_any A n c ts A' n' c' ss V m d vs w h h' hv hn hn' hm)
  clear h h' hv
  cases g : linksOk ts ss vs
  · have hr := Lib.hid (show askOK ts ss vs f t = false by unfold askOK; rw [g]; rfl)
    rw [g] at hgl
    go_enter Try.func88, Try.ntmps88
    go_wp2_with (go_at_call 16; refine hgl.out.mono ?_; rintro e w1 ⟨rfl, b1⟩; have u1 := Lib.hid b1; clear b1)
    go_ret
    exact ⟨ret_bool hr.out.symm, u1.out⟩
  · have hr := Lib.hid (ask_parts hl.out g f t)
    rw [g] at hgl
    cases i1 : inB f 0 ((n : Int) - 1)
    · rw [i1] at hr
      go_enter Try.func88, Try.ntmps88
      go_wp2_with (first
        | (go_at_call 16; refine hgl.out.mono ?_; rintro e w1 ⟨rfl, b1⟩; have u1 := Lib.hid b1; clear b1)
        | (go_at_call 80; refine (l1In_any _ _ _ _).mono ?_; rintro e w4 ⟨rfl, rfl⟩; rw [i1]))
      go_ret
      exact ⟨ret_bool hr.out.symm, u1.out⟩
    · cases i2 : inB t 0 ((n : Int) - 1)
      all_goals
        rw [i1, i2] at hr
        have tk0 : True := trivial
        go_enter Try.func88, Try.ntmps88
        go_wp2_with (first
          | (clear tk0; go_at_call 16; refine hgl.out.mono ?_; rintro e w1 ⟨rfl, b1⟩; have u1 := Lib.hid b1; clear b1; have tk1 : True := trivial)
          | (clear tk1; go_at_call 80; refine (l1In_any _ _ _ _).mono ?_; rintro e w4 ⟨rfl, rfl⟩; rw [i1]; have tk2 : True := trivial)
          | (clear tk2; go_at_call 80; refine (l1In_any _ _ _ _).mono ?_; rintro e w4 ⟨rfl, rfl⟩; rw [i2]))
        go_ret
        exact ⟨ret_bool hr.out.symm, u1.out⟩

set_option maxRecDepth 100000 in
set_option maxHeartbeats 800000 in
theorem specWhoLinks_any (A : Option Addr) (n c : Nat) (ts : List Blk) (A' : Option Addr) (n' c' : Nat) (ss : List Int) (V : Option Addr) (m d : Nat) (vs : List Vt) (f t : Int) (w : World) (h : BlksAt w w.heap.size A n ts) (h' : IntsAt w w.heap.size A' n' ss) (hv : VotesAt w w.heap.size V m vs) (hn : n ≤ 1048576) (hn' : n' ≤ 1048576) (hm : m ≤ 1048576) :
    Calls Try.prog 24 #[.slice A n c, .slice A' n' c', .slice V m d, .int .i64 f, .int .i64 t] w (RetOwn w (askOK ts ss vs f t) (whoR ts ss vs f t)) := by
  have hlv := Lib.hid hv.1
  have hvv := Lib.hid hv
  have ha := Lib.hid (l10Asked_any A n c ts A' n' c' ss V m d vs f t w h h' hv hn hn' hm)
  clear h h' hv
  cases g : askOK ts ss vs f t
  · have hr := Lib.hid (show whoR ts ss vs f t = [] by unfold whoR; rw [g]; rfl)
    rw [g] at ha
    go_enter Try.func24, Try.ntmps24
    go_wp2_with (go_at_call 88; refine ha.out.mono ?_; rintro e w1 ⟨rfl, b1⟩; have u1 := Lib.hid b1; clear b1)
    go_ret2
    exact ⟨none, 0, 0, rfl, by rw [hr.out]; exact own_nil _ _, u1.out⟩
  · have hr := Lib.hid (show whoR ts ss vs f t = whoL vs f t by unfold whoR; rw [g, if_pos rfl])
    have hm40 : m ≤ 40 := by unfold askOK at g; rw [Bool.and_eq_true] at g; rw [← hlv.out]; exact (linksOk_iff.1 g.1).1.2
    rw [g] at ha
    go_enter Try.func24, Try.ntmps24
    go_wp2_with (first
      | (go_at_call 88; refine ha.out.mono ?_; rintro e w1 ⟨rfl, b1⟩; have u1 := Lib.hid b1; clear b1)
      | (go_at_call 89; refine (l10Who_any V m d vs f t _ (hvv.out.up u1.out) hm40).mono ?_; rintro e w2 ⟨A2, n2, c2, rfl, o2, b2⟩; have o2' := Lib.hid (o2.fewer u1.out.size); have u2 := Lib.hid (u1.out.trans (b2.mono u1.out.size)); clear o2 b2))
    go_ret2
    exact ⟨A2, n2, c2, rfl, by rw [hr.out]; exact o2'.out, u2.out⟩

set_option maxRecDepth 100000 in
set_option maxHeartbeats 800000 in
theorem l10Is_any (A' : Option Addr) (n' c' : Nat) (ss : List Int) (V : Option Addr) (m d : Nat) (vs : List Vt) (f t : Int) (w : World) (ts : List Blk) (hok : linksOk ts ss vs = true) (h' : IntsAt w w.heap.size A' n' ss) (hv : VotesAt w w.heap.size V m vs) :
    Calls Try.prog 92 #[.slice A' n' c', .slice V m d, .int .i64 f, .int .i64 t] w (UpPost w (.bool (grB ss vs f t))) := by
  have hl' := h'.1
  have hm40 : m ≤ 40 := by rw [← hv.1]; exact (linksOk_iff.1 hok).1.2
  have hb := Lib.hid (bds_of_good (linksOk_iff.1 hok).1.1.2)
  have hn' : n' ≤ 1048576 := by have := (goodB_len (linksOk_iff.1 hok).1.1.2).2; omega
  have hvot := Lib.hid (show Vot n' (whoL vs f t) by rw [← hl']; exact whoL_vot hok f t)
  have hwl := Lib.hid (whoL_len (ls := vs) (by rw [hv.1]; exact hm40) f t)
  have hh' := Lib.hid h'
  have hw := Lib.hid (l10Who_any V m d vs f t w hv hm40)
  clear h' hv hl' hok
  go_enter Try.func92, Try.ntmps92
  go_wp2_with (first
    | (go_at_call 89; refine hw.out.mono ?_; rintro e w2 ⟨A2, n2, c2, rfl, o2, b2⟩; have hn2 : n2 ≤ 1048576 := by { have := o2.len; have := hwl.out; omega }; have o2' := Lib.hid o2.ints; have u2 := Lib.hid b2; clear o2 b2)
    | (go_at_call 154; refine (l1Great_any _ _ _ _ _ _ _ ss (whoL vs f t) _ (hh'.out.up' u2.out) o2'.out hn2 hn' hb.out hvot.out).mono ?_; rintro e w3 ⟨rfl, rfl⟩))
  go_ret
  exact ⟨rfl, u2.out⟩

set_option maxRecDepth 100000 in
set_option maxHeartbeats 800000 in
theorem specIsLinked_any (A : Option Addr) (n c : Nat) (ts : List Blk) (A' : Option Addr) (n' c' : Nat) (ss : List Int) (V : Option Addr) (m d : Nat) (vs : List Vt) (f t : Int) (w : World) (h : BlksAt w w.heap.size A n ts) (h' : IntsAt w w.heap.size A' n' ss) (hv : VotesAt w w.heap.size V m vs) (hn : n ≤ 1048576) (hn' : n' ≤ 1048576) (hm : m ≤ 1048576) :
    Calls Try.prog 30 #[.slice A n c, .slice A' n' c', .slice V m d, .int .i64 f, .int .i64 t] w (UpPost w (.tuple #[.bool (isLR ts ss vs f t), .bool (askOK ts ss vs f t)])) := by
  have hvv := Lib.hid hv; have hh' := Lib.hid h'
  have ha := Lib.hid (l10Asked_any A n c ts A' n' c' ss V m d vs f t w h h' hv hn hn' hm)
  clear h h' hv
  cases g : askOK ts ss vs f t
  · have hr := Lib.hid (show isLR ts ss vs f t = false by unfold isLR; rw [g]; rfl)
    rw [g] at ha
    go_enter Try.func30, Try.ntmps30
    go_wp2_with (go_at_call 88; refine ha.out.mono ?_; rintro e w1 ⟨rfl, b1⟩; have u1 := Lib.hid b1; clear b1)
    go_ret2
    exact ⟨ret_bools hr.out.symm rfl, u1.out⟩
  · have hr := Lib.hid (show isLR ts ss vs f t = grB ss vs f t by unfold isLR; rw [g]; rfl)
    have hok := Lib.hid (show linksOk ts ss vs = true by unfold askOK at g; rw [Bool.and_eq_true] at g; exact g.1)
    rw [g] at ha
    go_enter Try.func30, Try.ntmps30
    go_wp2_with (first
      | (go_at_call 88; refine ha.out.mono ?_; rintro e w1 ⟨rfl, b1⟩; have u1 := Lib.hid b1; clear b1)
      | (go_at_call 92; refine (l10Is_any A' n' c' ss V m d vs f t _ ts hok.out (hh'.out.up' u1.out) (hvv.out.up u1.out)).mono ?_; rintro e w2 ⟨rfl, b2⟩; have u2 := Lib.hid (u1.out.trans (b2.mono u1.out.size)); clear b2))
    go_ret2
    exact ⟨ret_bools hr.out.symm rfl, u2.out⟩
end Go.Proofs.Ythiegfbdmmpabaa
