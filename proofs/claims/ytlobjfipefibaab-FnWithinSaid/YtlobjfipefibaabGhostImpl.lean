/- What is proved here: what the program's SubWeights, HeadFrom, IsHeaviest and MarginAt return. No conditions but lengths. -/
import Derived.Test.YtlobjfipefibaabGhostFacts
import Derived.Test.YtlobjfipefibaabFenImpl
import Derived.Test.YtlobjfipefibaabSparseImpl
import Derived.Test.YtlobjfipefibaabLawCopy
import Derived.StillTailTactics
namespace Go.Proofs.Ytlobjfipefibaab
open Go.RowKit

theorem goodW_own {ts : List Blk} {xs : List Int} (ht : Tree ts) (hl : xs.length = ts.length) : goodW xs = allB xs 0 100000 := by
  unfold goodW
  have := ht.pos; have := ht.few
  rw [inB_true (by omega) (by omega)]; rfl

theorem areOwn_any (A A' : Option Addr) (n n' c c' : Nat) (ts : List Blk) (xs : List Int) (w : World) (h : BlksAt w w.heap.size A n ts) (h' : IntsAt w w.heap.size A' n' xs) (hn : n ≤ 1048576) (hn' : n' ≤ 1048576) :
    Calls Try.prog 133 #[.slice A n c, .slice A' n' c'] w (UpPost w (.bool (ownB ts xs))) := by
  have hl := Lib.hid h.1; have hl' := Lib.hid h'.1
  have hh := Lib.hid h; have hh' := Lib.hid h'; clear h h'
  cases hg : goodT ts
  · have hr := Lib.hid (show ownB ts xs = false by unfold ownB; rw [hg]; rfl)
    go_enter Try.func133, Try.ntmps133
    go_wp2_with (go_at_call 136; refine (implGoodT_any _ _ _ ts _ hh.out hn).mono ?_; rintro e w1 ⟨rfl, b1⟩; rw [hg])
    go_ret
    exact ⟨ret_bool hr.out.symm, b1⟩
  · have ht := Lib.hid (goodT_iff.1 hg)
    by_cases he : n' = n
    · subst he
      have hw := Lib.hid (goodW_own ht.out (by rw [hl.out, hl'.out]) : goodW xs = allB xs 0 100000)
      have hr := Lib.hid (show ownB ts xs = allB xs 0 100000 by unfold ownB; rw [hg, decide_eq_true (by rw [hl.out, hl'.out])]; rfl)
      have hq : ((n' : Int) == (n' : Int)) = true := by simp
      cases ha : allB xs 0 100000
      all_goals
        go_enter Try.func133, Try.ntmps133
        go_wp2_with (first
          | (go_at_call 136; refine (implGoodT_any _ _ _ ts _ hh.out hn).mono ?_; rintro e w1 ⟨rfl, b1⟩; rw [hg]; have b1' := Lib.hid b1; clear b1)
          | (go_at_call 162; refine (areWeights_any A' n' c' _ xs _ (hh'.out.up' b1'.out) hn').mono ?_; rintro e w2 ⟨rfl, rfl⟩; rw [hw.out, ha]))
        go_ret
        exact ⟨ret_bool (hr.out.trans ha).symm, b1'.out⟩
    · have hr := Lib.hid (show ownB ts xs = false by unfold ownB; rw [decide_eq_false (by rw [hl.out, hl'.out]; exact he)]; simp)
      have hq : ((n' : Int) == (n : Int)) = false := by simp; omega
      go_enter Try.func133, Try.ntmps133
      go_wp2_with (go_at_call 136; refine (implGoodT_any _ _ _ ts _ hh.out hn).mono ?_; rintro e w1 ⟨rfl, b1⟩; rw [hg])
      go_ret
      exact ⟨ret_bool hr.out.symm, b1⟩

theorem isChild_any (A : Option Addr) (n c : Nat) (ts : List Blk) (b : Int) (w : World) (h : BlksAt w w.heap.size A n ts) (hn : n ≤ 1048576) :
    Calls Try.prog 143 #[.slice A n c, .int .i64 b] w (UpPost w (.bool (goodT ts && inB b 1 (ts.length - 1)))) := by
  have hl := Lib.hid h.1
  have hh := Lib.hid h; clear h
  cases hk : okK ts b
  · have hr := Lib.hid (show (goodT ts && inB b 1 (ts.length - 1)) = false by
      cases hc : (goodT ts && inB b 1 (ts.length - 1))
      · rfl
      · rw [Bool.and_eq_true, inB_iff] at hc
        unfold okK at hk
        rw [hc.1, inB_true (by omega) hc.2.2] at hk
        cases hk)
    go_enter Try.func143, Try.ntmps143
    go_wp2_with (go_at_call 125; refine (isBlock_ok _ _ _ ts _ _ hh.out hn).mono ?_; rintro e w1 ⟨rfl, b1⟩; rw [hk])
    go_ret
    exact ⟨ret_bool hr.out.symm, b1⟩
  · obtain ⟨ht, k, rfl, hkl⟩ := okK_iff.1 hk
    have hg := goodT_iff.2 ht
    by_cases h0 : k = 0
    · subst h0
      have hr := Lib.hid (show (goodT ts && inB ((0 : Nat) : Int) 1 (ts.length - 1)) = false by rw [inB_low (by decide)]; simp)
      have hk0 : okK ts 0 = true := hk
      clear ht hg hkl hk
      go_enter Try.func143, Try.ntmps143
      go_wp2_with (go_at_call 125; refine (isBlock_ok _ _ _ ts _ _ hh.out hn).mono ?_; rintro e w1 ⟨rfl, b1⟩; first | rw [hk0] | rw [show okK ts ((0 : Nat) : Int) = true from hk0])
      go_ret
      exact ⟨ret_bool hr.out.symm, b1⟩
    · have hr := Lib.hid (show (goodT ts && inB (k : Int) 1 (ts.length - 1)) = true by rw [hg, inB_true (by omega) (by omega)]; rfl)
      have hne : ((k : Int) != 0) = true := by simp; omega
      clear ht hg hkl
      go_enter Try.func143, Try.ntmps143
      go_wp2_with (go_at_call 125; refine (isBlock_ok _ _ _ ts _ _ hh.out hn).mono ?_; rintro e w1 ⟨rfl, b1⟩; rw [hk])
      go_ret
      exact ⟨ret_bool hr.out.symm, b1⟩

theorem isPref_any (A : Option Addr) (n c B : Nat) (xs : List Int) (a b : Nat) (w : World) (h : IntsAt w B A n xs) (ha : a < n) (hb : b < n) :
    Calls Try.prog 208 #[.slice A n c, .int .i64 a, .int .i64 b] w fun e w' => e = .returned (.bool (pref (getI xs) a b)) ∧ ∃ m, w' = w.drewN m := by
  obtain ⟨bb, off, rfl, hbb, hca⟩ := h.2 a ha
  obtain ⟨b2, off2, e, _, hcb⟩ := h.2 b hb
  cases e
  obtain ⟨x, hx⟩ : ∃ x, xs[a]?.getD 0 = x := ⟨_, rfl⟩
  obtain ⟨y, hy⟩ : ∃ y, xs[b]?.getD 0 = y := ⟨_, rfl⟩
  rw [hx] at hca
  rw [hy] at hcb
  have hr := Lib.hid (show pref (getI xs) a b = (decide (y < x) || (x == y && decide (b < a))) by unfold pref getI; rw [hx, hy])
  clear h hx hy
  have hab : (a : Int) < (n : Int) := by omega
  have hbb2 : (b : Int) < (n : Int) := by omega
  by_cases h1 : y < x
  · have hr2 := Lib.hid (hr.out.trans (by simp [h1] : _ = true))
    have hd1 : decide (y < x) = true := decide_eq_true h1
    go_enter Try.func208, Try.ntmps208
    go_wp2_with fail
    go_quiet (fail)
    go_wp2_with fail
    go_ret
    exact ⟨ret_bool hr2.out.symm, _, rfl⟩
  · have hd1 : decide (y < x) = false := decide_eq_false h1
    by_cases h2 : x = y
    · have hxe : (x == y) = true := by simp [h2]
      by_cases h3 : b < a
      · have hr2 := Lib.hid (hr.out.trans (by simp [h3, h2] : _ = true))
        have h3' : decide (b < a) = true := decide_eq_true h3
        clear h2
        go_enter Try.func208, Try.ntmps208
        go_wp2_with fail
        go_quiet (fail)
        go_wp2_with fail
        go_ret
        exact ⟨ret_bool hr2.out.symm, _, rfl⟩
      · have hr2 := Lib.hid (hr.out.trans (by simp [h3, h1] : _ = false))
        have h3' : decide (b < a) = false := decide_eq_false h3
        clear h2
        go_enter Try.func208, Try.ntmps208
        go_wp2_with fail
        go_quiet (fail)
        go_wp2_with fail
        go_ret
        exact ⟨ret_bool hr2.out.symm, _, rfl⟩
    · have hxe : (x == y) = false := by simp [h2]
      have hr2 := Lib.hid (hr.out.trans (by simp [h1, h2] : _ = false))
      go_enter Try.func208, Try.ntmps208
      go_wp2_with fail
      go_quiet (fail)
      go_wp2_with fail
      go_ret
      exact ⟨ret_bool hr2.out.symm, _, rfl⟩
theorem quiet_isPref {w : World} {d : Nat} (A : Option Addr) (n c B : Nat) (xs : List Int) (a b : Nat) (h : IntsAt w B A n xs) (ha : a < n) (hb : b < n) : Calls Try.prog 208 #[.slice A n c, .int .i64 a, .int .i64 b] (w.drewN d) fun e w'' => e = .returned (.bool (pref (getI xs) a b)) ∧ ∃ m, w'' = w.drewN m :=
  (isPref_any A n c B xs a b (w.drewN d) ⟨h.1, h.2⟩ ha hb).mono fun _ _ ⟨he, m, hm⟩ => ⟨he, d + m, by rw [hm]; exact World.drewN_drewN _ _ _⟩

theorem OwnAt.setAt' {w : World} {B g n : Nat} {xs : List Int} (h : OwnAt w B (some ⟨g, 0, none⟩) n xs) {j : Nat} (hj : j < n) (y : Int) : OwnAt (w.setCell ⟨g, j, none⟩ (.int .i64 y)) B (some ⟨g, 0, none⟩) n (xs.set j y) := by
  obtain ⟨g', m, f, e, hm, hr, hf⟩ := h.own (by omega)
  cases e
  refine ⟨by rw [List.length_set]; exact h.len, fun _ => ⟨g, m, _, rfl, hm, hr.set j (.int .i64 y), fun i hi => ?_⟩, fun ad e => by cases e; exact ⟨(h.low _ rfl).1, by simpa using (h.low _ rfl).2⟩⟩
  by_cases e : i = j
  · subst e
    have : i < xs.length := by rw [h.len]; exact hj
    simp [this]
  · simp only [e, if_false]
    rw [hf i hi, List.getElem?_set_ne (by omega)]
theorem subs_next (ts : List Blk) (xs : List Int) {n k : Nat} (hl : ts.length = n) (hk : k < n) (h0 : k ≠ 0) : subs ts xs (n - 1 - (k - 1)) = addI (subs ts xs (n - 1 - k)) (parN ts k) (getI (subs ts xs (n - 1 - k)) k) := by
  obtain ⟨j, hj⟩ : ∃ j, n - 1 - k = j := ⟨_, rfl⟩
  rw [hj, show n - 1 - (k - 1) = j + 1 by omega]
  simp only [subs]
  rw [show ts.length - 1 - j = k by omega]

set_option maxRecDepth 100000 in
set_option maxHeartbeats 800000 in
theorem implSub_any (A : Option Addr) (n c : Nat) (ts : List Blk) (A' : Option Addr) (n' c' : Nat) (xs : List Int) (w : World) (h : BlksAt w w.heap.size A n ts) (h' : IntsAt w w.heap.size A' n' xs) (hn : n ≤ 1048576) (hn' : n' ≤ 1048576) :
    Calls Try.prog 39 #[.slice A n c, .slice A' n' c'] w (RetOwn w (ownB ts xs) (subR ts xs)) := by
  have hl := Lib.hid h.1; have hl' := Lib.hid h'.1
  have hh := Lib.hid h; have hh' := Lib.hid h'; clear h h'
  cases hg : ownB ts xs
  · have hR := Lib.hid (show subR ts xs = [] by unfold subR; rw [hg]; rfl)
    go_enter Try.func39, Try.ntmps39
    go_wp2_with fail
    refine (areOwn_any A A' n n' c c' ts xs _ hh.out hh'.out hn hn').mono ?_
    rintro e w1 ⟨rfl, b1⟩
    rw [hg]
    go_wp2_with fail
    go_ret2
    exact ⟨none, 0, 0, rfl, by rw [hR.out]; exact own_nil _ _, b1⟩
  · have hR := Lib.hid (show subR ts xs = sub ts xs by unfold subR; rw [hg]; rfl)
    obtain ⟨ht0, hlx, ha⟩ := ownB_iff.1 hg
    have ht := Lib.hid ht0
    have hn0 : n' = n := by rw [← hl'.out, ← hl.out]; exact hlx
    subst hn0
    have hpos : 0 < n' := by rw [← hl.out]; exact ht0.pos
    have hfew : n' ≤ 24 := by rw [← hl.out]; exact ht0.few
    obtain ⟨ab, ao, rfl, _, _⟩ := hh'.out.2 0 hpos
    obtain ⟨tb, to, rfl, _, _⟩ := hh.out.2 0 hpos
    have hsub0 := Lib.hid (show subs ts xs (n' - 1 - (n' - 1)) = xs by rw [Nat.sub_self]; rfl)
    have hsubn := Lib.hid (show subs ts xs (n' - 1 - 0) = sub ts xs by unfold sub; rw [hl.out]; rfl)
    clear hlx ha ht0
    go_enter Try.func39, Try.ntmps39
    go_wp2_with fail
    refine (areOwn_any _ _ n' n' c c' ts xs _ hh.out hh'.out hn hn').mono ?_
    rintro e w1 ⟨rfl, b1⟩
    rw [hg]
    have u1 := Lib.hid b1; clear b1
    go_wp2_with fail
    refine (clone_any ab ao n' c' w1.heap.size xs _ (hh'.out.up' u1.out) (Nat.le_refl _) hpos (by omega)).mono ?_
    rintro e w2 ⟨g, cg, rfl, o2, b2⟩
    have o2' := Lib.hid o2
    have u2 := Lib.hid (u1.out.trans (b2.mono u1.out.size))
    have lo := Lib.hid (show w.heap.size ≤ g from Nat.le_trans u1.out.size (o2.low _ rfl).1)
    clear o2 b2
    have hnI : (n' : Int) - 1 = ((n' - 1 : Nat) : Int) := by omega
    go_wp2_with fail
    go_loopw [7] (fun i wr => ∃ k : Nat, k < n' ∧ i = .int .i64 k ∧ Hid (OwnAt wr w1.heap.size (some ⟨g, 0, none⟩) n' (subs ts xs (n' - 1 - k))) ∧ Hid (Below w.heap.size w wr)) (fun i _ => (intOf i).toNat)
    case atStart => exact ⟨n' - 1, by omega, by first | rfl | (rw [hnI]) | (congr 1), Lib.hid (by rw [hsub0.out]; exact o2'.out), u2⟩
    case round =>
      obtain ⟨k, hk, rfl, ho, hbel⟩ := hrel
      by_cases h0 : k = 0
      · subst h0
        have o9 := Lib.hid (show OwnAt wr w1.heap.size (some ⟨g, 0, none⟩) n' (sub ts xs) by rw [← hsubn.out]; exact ho.out)
        go_wp2_with fail
        go_ret2
        exact ⟨_, n', cg, rfl, by rw [hR.out]; exact o9.out.fewer u1.out.size, hbel.out⟩
      · have hp := ht.out.up (k := k) (by rw [hl.out]; exact hk) h0
        obtain ⟨p, hpe⟩ : ∃ p, parN ts k = p := ⟨_, rfl⟩
        obtain ⟨tb', to', e, htb, hc0, _⟩ := hh.out.2 k hk
        cases e
        have hc := (hbel.out.cell (p := ⟨tb, to + k * 2, none⟩) htb).trans hc0
        rw [show (ts[k]?.getD (0, 0)).1 = (p : Int) from by rw [← hpe]; exact hp.1] at hc
        have hpk : p < k := by rw [← hpe]; exact hp.2
        have hst := Lib.hid (subs_next ts xs hl.out hk h0)
        rw [hpe] at hst
        obtain ⟨g', m, f, e, hm, hrow, hf⟩ := ho.out.own hpos
        cases e
        have d1 := hrow.cell (i := p) (by omega)
        have d2 := hrow.cell (i := k) (by omega)
        have fz := hrow.frozen p
        rw [hf p (by omega)] at d1
        rw [hf k hk] at d2
        obtain ⟨x, hx⟩ : ∃ x, (subs ts xs (n' - 1 - k))[p]?.getD 0 = x := ⟨_, rfl⟩
        obtain ⟨y, hy⟩ : ∃ y, (subs ts xs (n' - 1 - k))[k]?.getD 0 = y := ⟨_, rfl⟩
        rw [hx] at d1
        rw [hy] at d2
        have o9 := Lib.hid (show OwnAt (wr.setCell ⟨g, p, none⟩ (.int .i64 (wrap64 (x + y)))) w1.heap.size (some ⟨g, 0, none⟩) n' (subs ts xs (n' - 1 - (k - 1))) by
          rw [hst.out]
          unfold addI getI
          rw [hx, hy]
          exact ho.out.setAt' (by omega) _)
        have b9 := Lib.hid (hbel.out.setCell (p := ⟨g, p, none⟩) lo.out (.int .i64 (wrap64 (x + y))))
        have hkI : (k : Int) < (n' : Int) := by omega
        have hpI : (p : Int) < (n' : Int) := by omega
        have hpn : p < n' := by omega
        have hk0 : 0 < k := by omega
        clear hp hpe hc0 hrow hf hx hy ho hbel hst h0
        go_wp2_with fail
        go_still_tail 14, (by kernel_rfl)
        change wpList _ _ _ _ _ wr.drew
        go_wp2_with fail
        go_roundw
        case rel => exact ⟨k - 1, by omega, by go_num, ⟨o9.out.1, o9.out.2, o9.out.3⟩, ⟨b9.out.1, b9.out.2, b9.out.3, b9.out.4, b9.out.5⟩⟩
        case measure => simp [intOf]; omega
end Go.Proofs.Ytlobjfipefibaab
