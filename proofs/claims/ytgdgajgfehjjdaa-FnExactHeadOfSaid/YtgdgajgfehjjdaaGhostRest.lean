/- What is proved here: what the model's l7Head, HeadFrom and IsHeaviest return. No conditions but lengths. -/
import Derived.Test.YtgdgajgfehjjdaaGhostSpec
namespace Go.Proofs.Ytgdgajgfehjjdaa
open Go.RowKit

set_option maxRecDepth 100000 in
set_option maxHeartbeats 800000 in
theorem l7Head_any (A : Option Addr) (n c : Nat) (ts : List Blk) (A' : Option Addr) (c' : Nat) (xs : List Int) (b : Nat) (w : World) (h : BlksAt w w.heap.size A n ts) (h' : IntsAt w w.heap.size A' n xs) (ht0 : Tree ts) (hb : b < n) :
    Calls Try.prog 106 #[.slice A n c, .slice A' n c', .int .i64 b] w (UpPost w (.int .i64 (headZ ts (getI (sub ts xs)) b : Nat))) := by
  have hl := Lib.hid h.1; have hl' := Lib.hid h'.1
  have hh := Lib.hid h; have hh' := Lib.hid h'; clear h h'
  have ht := Lib.hid ht0
  have hfew : n ≤ 24 := by rw [← hl.out]; exact ht0.few
  have hsl := Lib.hid (show (sub ts xs).length = n by rw [sub_len, hl'.out])
  clear ht0
  go_enter Try.func106, Try.ntmps106
  go_wp2_with fail
  refine (l7Sub_any A n c ts A' c' xs _ hh.out hh'.out ht.out).mono ?_
  rintro e w1 ⟨A1, n1, c1, rfl, o1, b1⟩
  have hn1 : n1 = n := by rw [← o1.len]; exact hsl.out
  subst hn1
  have i1 := Lib.hid o1.ints
  have u1 := Lib.hid b1
  clear o1 b1
  go_wp2_with fail
  refine (l7Child_any A n1 c ts A1 c1 (sub ts xs) b _ (hh.out.up u1.out) i1.out ht.out).mono ?_
  rintro e w2 ⟨rfl, b2⟩
  have u2 := Lib.hid (u1.out.trans (b2.mono u1.out.size))
  have i2 := Lib.hid (i1.out.up' b2)
  clear b2 i1
  go_wp2_with fail
  go_loopg [2, 8] n1 (fun g a k wr => ∃ x : Nat, x < n1 ∧ n1 ≤ g + x ∧ a = .int .i64 x ∧ k = .int .i64 (bestL (getI (sub ts xs)) (kids ts x)) ∧ Hid (headZ ts (getI (sub ts xs)) b = headZ ts (getI (sub ts xs)) x) ∧ Hid (Below w2.heap.size w2 wr))
  case atStart => exact ⟨b, hb, by omega, rfl, rfl, Lib.hid rfl, Lib.hid (Below.refl _ _)⟩
  case round =>
    obtain ⟨x, hx, hg, rfl, rfl, heq, hbel⟩ := hrel
    have hcs := best_kids ts (getI (sub ts xs)) x ts.length
    rcases hcs with ⟨_, e0⟩ | ⟨m, e1, e2, _⟩
    · have e0' : bestL (getI (sub ts xs)) (kids ts x) = -1 := e0
      have hst := Lib.hid (heq.out.trans (headZ_leaf (getI (sub ts xs)) (by rw [hl.out]; exact hx) e0'))
      have u9 := Lib.hid (u2.out.trans (hbel.out.mono u2.out.size))
      rw [e0']
      clear e0 e0'
      go_wp2_with fail
      go_ret
      exact ⟨ret_int (by rw [hst.out]), u9.out⟩
    · have e1' : bestL (getI (sub ts xs)) (kids ts x) = (m : Int) := e1
      have hst := Lib.hid (heq.out.trans (headZ_step ht.out (getI (sub ts xs)) (by rw [hl.out]; exact hx) e1'))
      have hma := kids_above ht.out e2
      have hmn : m < n1 := by rw [← hl.out]; exact hma.2.1
      have hxm : x < m := hma.1
      rw [e1']
      have u9 := Lib.hid (u2.out.trans (hbel.out.mono u2.out.size))
      have i9 := Lib.hid (i2.out.up' hbel.out)
      clear e1 e1' e2 hma
      go_wp2_with (go_at_call 127; refine (l7Child_any A n1 c ts A1 c1 (sub ts xs) m _ (hh.out.up u9.out) i9.out ht.out).mono ?_; rintro e w3 ⟨rfl, b3⟩; have b4 := Lib.hid (hbel.out.trans (b3.mono hbel.out.size)); clear b3)
      go_roundg (gk - 1)
      case measure => omega
      case rel => exact ⟨m, hmn, by omega, rfl, rfl, hst, b4⟩

set_option maxRecDepth 100000 in
set_option maxHeartbeats 800000 in
theorem specHeadF_any (A : Option Addr) (n c : Nat) (ts : List Blk) (A' : Option Addr) (n' c' : Nat) (xs : List Int) (a : Int) (w : World) (h : BlksAt w w.heap.size A n ts) (h' : IntsAt w w.heap.size A' n' xs) (hn : n ≤ 1048576) (hn' : n' ≤ 1048576) :
    Calls Try.prog 64 #[.slice A n c, .slice A' n' c', .int .i64 a] w (UpPost w (.tuple #[.int .i64 (headHR ts xs a), .bool (headOK ts xs a)])) := by
  have hl := Lib.hid h.1; have hl' := Lib.hid h'.1
  have hh := Lib.hid h; have hh' := Lib.hid h'; clear h h'
  cases hg : ownB ts xs
  · have hok := Lib.hid (show headOK ts xs a = false by unfold headOK; rw [hg]; rfl)
    have hr := Lib.hid (show headHR ts xs a = 0 by unfold headHR; rw [hok.out]; rfl)
    go_enter Try.func64, Try.ntmps64
    go_wp2_with (go_at_call 114; refine (l7Own_any A A' n n' c c' ts xs _ hh.out hh'.out hn hn').mono ?_; rintro e w1 ⟨rfl, b1⟩; rw [hg])
    go_ret2
    exact ⟨ret_two hr.out.symm hok.out.symm, b1⟩
  · obtain ⟨ht0, hlx, ha⟩ := ownB_iff.1 hg
    have ht := Lib.hid ht0
    have hn0 : n' = n := by rw [← hl'.out, ← hl.out]; exact hlx
    subst hn0
    clear hlx ha ht0
    by_cases h0 : 0 ≤ a
    · obtain ⟨k, rfl⟩ := Int.eq_ofNat_of_zero_le h0
      by_cases h1 : k < n'
      · have hok := Lib.hid (show headOK ts xs (k : Int) = true from headOK_iff.2 ⟨ownB_iff.1 hg, k, rfl, by rw [hl.out]; exact h1⟩)
        have hr := Lib.hid (show headHR ts xs (k : Int) = (headZ ts (getI (sub ts xs)) k : Nat) by unfold headHR; rw [hok.out, if_pos rfl, Int.toNat_natCast])
        have h1I : ¬ (n' : Int) ≤ (k : Int) := by omega
        clear h0
        go_enter Try.func64, Try.ntmps64
        go_wp2_with (first
          | (go_at_call 114; refine (l7Own_any A A' n' n' c c' ts xs _ hh.out hh'.out hn hn').mono ?_; rintro e w1 ⟨rfl, b1⟩; rw [hg]; have u1 := Lib.hid b1; clear b1)
          | (go_at_call 106; refine (l7Head_any A n' c ts A' c' xs k _ (hh.out.up u1.out) (hh'.out.up' u1.out) ht.out h1).mono ?_; rintro e w2 ⟨rfl, b2⟩; have u2 := Lib.hid (u1.out.trans (b2.mono u1.out.size)); clear b2))
        go_ret2
        exact ⟨ret_two hr.out.symm hok.out.symm, u2.out⟩
      · have hok := Lib.hid (show headOK ts xs (k : Int) = false by unfold headOK; rw [inB_high (by rw [hl.out]; omega)]; simp)
        have hr := Lib.hid (show headHR ts xs (k : Int) = 0 by unfold headHR; rw [hok.out]; rfl)
        have h1I : (n' : Int) ≤ (k : Int) := by omega
        clear h0
        go_enter Try.func64, Try.ntmps64
        go_wp2_with (go_at_call 114; refine (l7Own_any A A' n' n' c c' ts xs _ hh.out hh'.out hn hn').mono ?_; rintro e w1 ⟨rfl, b1⟩; rw [hg])
        go_ret2
        exact ⟨ret_two hr.out.symm hok.out.symm, b1⟩
    · have hok := Lib.hid (show headOK ts xs a = false by unfold headOK; rw [inB_low (by omega)]; simp)
      have hr := Lib.hid (show headHR ts xs a = 0 by unfold headHR; rw [hok.out]; rfl)
      have h0' : a < 0 := by omega
      go_enter Try.func64, Try.ntmps64
      go_wp2_with (go_at_call 114; refine (l7Own_any A A' n' n' c c' ts xs _ hh.out hh'.out hn hn').mono ?_; rintro e w1 ⟨rfl, b1⟩; rw [hg])
      go_ret2
      exact ⟨ret_two hr.out.symm hok.out.symm, b1⟩

theorem child_no_low {ts : List Blk} {xs : List Int} {a : Int} (h : a < 1) : childOK ts xs a = false := by unfold childOK; rw [inB_low h]; simp
theorem child_no_high {ts : List Blk} {xs : List Int} {a : Int} (h : (ts.length : Int) ≤ a) : childOK ts xs a = false := by unfold childOK; rw [inB_high (by omega)]; simp
theorem beq_nat (x y : Nat) : ((x : Int) == (y : Int)) = decide ((x : Int) = (y : Int)) := by
  by_cases h : (x : Int) = y <;> simp [h]

set_option maxRecDepth 100000 in
set_option maxHeartbeats 1600000 in
theorem specHeav_any (A : Option Addr) (n c : Nat) (ts : List Blk) (A' : Option Addr) (n' c' : Nat) (xs : List Int) (a : Int) (w : World) (h : BlksAt w w.heap.size A n ts) (h' : IntsAt w w.heap.size A' n' xs) (hn : n ≤ 1048576) (hn' : n' ≤ 1048576) :
    Calls Try.prog 73 #[.slice A n c, .slice A' n' c', .int .i64 a] w (UpPost w (.tuple #[.bool (heavR ts xs a), .bool (childOK ts xs a)])) := by
  have hl := Lib.hid h.1; have hl' := Lib.hid h'.1
  have hh := Lib.hid h; have hh' := Lib.hid h'; clear h h'
  cases hg : ownB ts xs
  · have hok := Lib.hid (show childOK ts xs a = false by unfold childOK; rw [hg]; rfl)
    have hr := Lib.hid (show heavR ts xs a = false by unfold heavR; rw [hok.out]; rfl)
    go_enter Try.func73, Try.ntmps73
    go_wp2_with (go_at_call 114; refine (l7Own_any A A' n n' c c' ts xs _ hh.out hh'.out hn hn').mono ?_; rintro e w1 ⟨rfl, b1⟩; rw [hg])
    go_ret2
    exact ⟨ret_bb hr.out.symm hok.out.symm, b1⟩
  · obtain ⟨ht0, hlx, ha⟩ := ownB_iff.1 hg
    have ht := Lib.hid ht0
    have hn0 : n' = n := by rw [← hl'.out, ← hl.out]; exact hlx
    subst hn0
    clear hlx ha ht0
    by_cases h0 : 1 ≤ a
    · obtain ⟨k, rfl⟩ := Int.eq_ofNat_of_zero_le (show 0 ≤ a by omega)
      by_cases h1 : k < n'
      · have hk0 : k ≠ 0 := by omega
        have hok := Lib.hid (show childOK ts xs (k : Int) = true from childOK_iff.2 ⟨ownB_iff.1 hg, k, rfl, by rw [hl.out]; exact h1, hk0⟩)
        have hu := ht.out.up (k := k) (by rw [hl.out]; exact h1) hk0
        obtain ⟨p, hp⟩ : ∃ p, parN ts k = p := ⟨_, rfl⟩
        have hr := Lib.hid (show heavR ts xs (k : Int) = (bestL (getI (sub ts xs)) (kids ts p) == (k : Int)) by
          unfold heavR; rw [hok.out, Bool.true_and, Int.toNat_natCast, chos_best ht.out _ (by rw [hl.out]; exact h1) hk0, hp]
          by_cases e : bestL (getI (sub ts xs)) (kids ts p) = (k : Int) <;> simp [e])
        obtain ⟨tb, to, e, htb, hc, _⟩ := hh.out.2 k h1
        rw [show (ts[k]?.getD (0, 0)).1 = (p : Int) from by rw [← hp]; exact hu.1] at hc
        have hsl := Lib.hid (show (sub ts xs).length = n' by rw [sub_len, hl'.out])
        have h1I : ¬ (n' : Int) ≤ (k : Int) := by omega
        have h1J : (k : Int) < (n' : Int) := by omega
        have h0I : ¬ (k : Int) < 1 := by omega
        obtain ⟨r, hrr⟩ : ∃ r, bestL (getI (sub ts xs)) (kids ts p) = r := ⟨_, rfl⟩
        have hr' := Lib.hid (hr.out.trans (by rw [hrr]))
        have hrr' := Lib.hid hrr
        subst e
        clear h0 hu hp hr hrr
        go_enter Try.func73, Try.ntmps73
        go_wp2_with (go_at_call 114; refine (l7Own_any _ A' n' n' c c' ts xs _ hh.out hh'.out hn hn').mono ?_; rintro e w1 ⟨rfl, b1⟩; rw [hg]; have u1 := Lib.hid b1; clear b1)
        have hcA := (u1.out.cell (p := ⟨tb, to + k * 2, none⟩) htb).trans hc
        have hTs := Lib.hid (l7Sub_any _ n' c ts A' c' xs w1.drew (show BlksAt w1.drew w1.drew.heap.size _ n' ts from ⟨(hh.out.up u1.out).1, (hh.out.up u1.out).2⟩) (show IntsAt w1.drew w1.drew.heap.size A' n' xs from ⟨(hh'.out.up' u1.out).1, (hh'.out.up' u1.out).2⟩) ht.out)
        go_region_with (first
          | (go_at_call 117
             refine hTs.out.mono ?_
             rintro e w2 ⟨A2, n2, c2, rfl, o2, b2⟩
             have hn2 : n2 = n' := by rw [← o2.len]; exact hsl.out
             subst hn2
             have b2' := Lib.hid (show Below w1.heap.size w1 w2 from ⟨b2.os, b2.tape, b2.output, b2.size, b2.block⟩)
             have hcA2 := ((u1.out.trans (b2'.out.mono u1.out.size)).cell (p := ⟨tb, to + k * 2, none⟩) htb).trans hc
             have i2 := Lib.hid o2.ints
             clear b2 o2)
          | (go_at_call 127
             refine (l7Child_any _ n2 c ts A2 c2 (sub ts xs) p _ (hh.out.up (u1.out.trans (b2'.out.mono u1.out.size))) i2.out ht.out).mono ?_
             rintro e w3 ⟨rfl, b3⟩
             rw [hrr'.out]
             have b3' := Lib.hid ((u1.out.trans (b2'.out.mono u1.out.size)).trans (b3.mono (u1.out.trans (b2'.out.mono u1.out.size)).size))
             clear b3))
        all_goals
          go_wp2_with fail
          go_ret2
          exact ⟨ret_bb hr'.out.symm hok.out.symm, b3'.out⟩
      · have hok := Lib.hid (child_no_high (ts := ts) (xs := xs) (a := k) (by rw [hl.out]; omega))
        have hr := Lib.hid (show heavR ts xs (k : Int) = false by unfold heavR; rw [hok.out]; rfl)
        have h1I : (n' : Int) ≤ (k : Int) := by omega
        have h0I : ¬ (k : Int) < 1 := by omega
        clear h0
        go_enter Try.func73, Try.ntmps73
        go_wp2_with (go_at_call 114; refine (l7Own_any A A' n' n' c c' ts xs _ hh.out hh'.out hn hn').mono ?_; rintro e w1 ⟨rfl, b1⟩; rw [hg])
        go_ret2
        exact ⟨ret_bb hr.out.symm hok.out.symm, b1⟩
    · have hok := Lib.hid (child_no_low (ts := ts) (xs := xs) (a := a) (by omega))
      have hr := Lib.hid (show heavR ts xs a = false by unfold heavR; rw [hok.out]; rfl)
      have h0' : a < 1 := by omega
      go_enter Try.func73, Try.ntmps73
      go_wp2_with (go_at_call 114; refine (l7Own_any A A' n' n' c c' ts xs _ hh.out hh'.out hn hn').mono ?_; rintro e w1 ⟨rfl, b1⟩; rw [hg])
      go_ret2
      exact ⟨ret_bb hr.out.symm hok.out.symm, b1⟩
end Go.Proofs.Ytgdgajgfehjjdaa
