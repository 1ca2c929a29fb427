/- What is proved here: what MoveVote of the program and of the model return. No conditions but lengths. -/
import Derived.Test.YtbggglddgpeobabGhostAdd
namespace Go.Proofs.Ytbggglddgpeobab
open Go.RowKit

/-- What is known where a vote can be moved: the lists after each of the two writes, without a wrap. -/
theorem mv_steps {ts : List Blk} {xs : List Int} (ho : ownB ts xs = true) {f t : Nat} (hf : f < ts.length) (ht : t < ts.length) {y : Int} (h0 : 0 ≤ y) (h1 : y ≤ 100000) :
    mvL xs f t y = (xs.set f (getI xs f - y)).set t (getI (xs.set f (getI xs f - y)) t + y) ∧ (-100000 ≤ getI (xs.set f (getI xs f - y)) t ∧ getI (xs.set f (getI xs f - y)) t ≤ 100000) ∧ 0 ≤ getI xs f ∧ getI xs f ≤ 100000 := by
  obtain ⟨_, hl, ha⟩ := ownB_iff.1 ho
  have a1 := allB_at ha f (by omega)
  have a2 := allB_at ha t (by omega)
  have e1 : addI xs f (-y) = xs.set f (getI xs f - y) := by unfold addI; rw [show wrap64 (getI xs f + -y) = getI xs f - y by unfold wrap64; omega]
  have hb : -100000 ≤ getI (xs.set f (getI xs f - y)) t ∧ getI (xs.set f (getI xs f - y)) t ≤ 100000 := by
    rw [← e1, addI_get _ t (by omega)]
    split
    · unfold wrap64; omega
    · omega
  refine ⟨?_, hb, a1⟩
  unfold mvL
  rw [Int.toNat_natCast, Int.toNat_natCast, e1]
  unfold addI
  rw [show wrap64 (getI (xs.set f (getI xs f - y)) t + y) = getI (xs.set f (getI xs f - y)) t + y by unfold wrap64; omega]

theorem mvR_no {ts : List Blk} {xs : List Int} {f t y : Int} (h : mvOk ts xs f t y = false) : mvR ts xs f t y = [] := by unfold mvR; rw [h]; rfl
theorem mv_no0 {ts : List Blk} {xs : List Int} {f t y : Int} (h : ownB ts xs = false) : mvOk ts xs f t y = false := by unfold mvOk; rw [h]; rfl
theorem mv_no1 {ts : List Blk} {xs : List Int} {f t y : Int} (h : inB f 0 (ts.length - 1) = false) : mvOk ts xs f t y = false := by unfold mvOk; rw [h]; simp
theorem mv_no2 {ts : List Blk} {xs : List Int} {f t y : Int} (h : inB t 0 (ts.length - 1) = false) : mvOk ts xs f t y = false := by unfold mvOk; rw [h]; simp
theorem mv_no3 {ts : List Blk} {xs : List Int} {f t y : Int} (h : inB y 0 100000 = false) : mvOk ts xs f t y = false := by unfold mvOk; rw [h]; simp
theorem mv_yes {ts : List Blk} {xs : List Int} {f t : Nat} {y : Int} (ho : ownB ts xs = true) (hf : f < ts.length) (ht : t < ts.length) (h : inB y 0 100000 = true) : mvOk ts xs f t y = ownB ts (mvL xs f t y) := by
  unfold mvOk; rw [ho, h, inB_true (n := (f : Int)) (by omega) (by omega), inB_true (n := (t : Int)) (by omega) (by omega)]; rfl
theorem ok_in {ts : List Blk} {b : Int} (hg : goodT ts = true) : okK ts b = inB b 0 (ts.length - 1) := by unfold okK; rw [hg]; rfl
theorem mvR_yes {ts : List Blk} {xs : List Int} {f t y : Int} (h : mvOk ts xs f t y = true) : mvR ts xs f t y = mvL xs f t y := by unfold mvR; rw [h]; rfl

set_option maxRecDepth 100000 in
set_option maxHeartbeats 1600000 in
theorem implMv_any (A : Option Addr) (n c : Nat) (ts : List Blk) (A' : Option Addr) (n' c' : Nat) (xs : List Int) (a b d : Int) (w : World) (h : BlksAt w w.heap.size A n ts) (h' : IntsAt w w.heap.size A' n' xs) (hn : n ≤ 1048576) (hn' : n' ≤ 1048576) :
    Calls Try.prog 42 #[.slice A n c, .slice A' n' c', .int .i64 a, .int .i64 b, .int .i64 d] w (RetOwn w (mvOk ts xs a b d) (mvR ts xs a b d)) := by
  have hl := Lib.hid h.1; have hl' := Lib.hid h'.1
  have hh := Lib.hid h; have hh' := Lib.hid h'; clear h h'
  have hfin : ∀ (hok : mvOk ts xs a b d = false) (w1 : World) (b1 : Below w.heap.size w w1), RetOwn w (mvOk ts xs a b d) (mvR ts xs a b d) (.returned (.tuple #[.slice none 0 0, .bool false])) w1 := fun hok w1 b1 =>
    ⟨none, 0, 0, ret_sb hok.symm, by rw [mvR_no hok]; exact own_nil _ _, b1⟩
  have hfin' := Lib.hid hfin
  clear hfin
  cases hg : ownB ts xs
  · have hok := Lib.hid (mv_no0 (f := a) (t := b) (y := d) hg)
    go_enter Try.func42, Try.ntmps42
    go_wp2_with (go_at_call 80; refine (areOwn_any A A' n n' c c' ts xs _ hh.out hh'.out hn hn').mono ?_; rintro e w1 ⟨rfl, b1⟩; rw [hg])
    go_ret2
    exact hfin'.out hok.out _ b1
  · obtain ⟨ht0, hlx, ha⟩ := ownB_iff.1 hg
    have ht := Lib.hid ht0
    have hgt := Lib.hid (goodT_iff.2 ht0)
    have hn0 : n' = n := by rw [← hl'.out, ← hl.out]; exact hlx
    subst hn0
    have hpos : 0 < n' := by rw [← hl.out]; exact ht0.pos
    have hfew : n' ≤ 24 := by rw [← hl.out]; exact ht0.few
    clear hlx ha ht0
    cases hk : okK ts a
    · have hok := Lib.hid (mv_no1 (xs := xs) (t := b) (y := d) ((ok_in hgt.out).symm.trans hk))
      go_enter Try.func42, Try.ntmps42
      have tk0 : True := trivial
      have tk1 : True := trivial
      go_wp2_with (first
        | (clear tk0; go_at_call 80; refine (areOwn_any A A' n' n' c c' ts xs _ hh.out hh'.out hn hn').mono ?_; rintro e w1 ⟨rfl, b1⟩; rw [hg]; have u1 := Lib.hid b1; clear b1)
        | (clear tk1; go_at_call 76; refine (isBlock_ok _ n' c ts a _ (hh.out.up u1.out) hn).mono ?_; rintro e w2 ⟨rfl, b2⟩; rw [hk]; have u2 := Lib.hid (u1.out.trans (b2.mono u1.out.size)); clear b2))
      go_ret2
      exact hfin'.out hok.out _ u2.out
    · obtain ⟨_, f, rfl, hfl⟩ := okK_iff.1 hk
      have hfn : f < n' := by rw [← hl.out]; exact hfl
      clear hfl
      cases hk2 : okK ts b
      · have hok := Lib.hid (mv_no2 (xs := xs) (f := f) (y := d) ((ok_in hgt.out).symm.trans hk2))
        by_cases hne : b = (f : Int)
        · rw [hne, hk] at hk2; cases hk2
        · go_enter Try.func42, Try.ntmps42
          have tk0 : True := trivial
          have tk1 : True := trivial
          have tk2 : True := trivial
          go_wp2_with (first
            | (clear tk0; go_at_call 80; refine (areOwn_any A A' n' n' c c' ts xs _ hh.out hh'.out hn hn').mono ?_; rintro e w1 ⟨rfl, b1⟩; rw [hg]; have u1 := Lib.hid b1; clear b1)
            | (clear tk1; go_at_call 76; refine (isBlock_ok _ n' c ts f _ (hh.out.up u1.out) hn).mono ?_; rintro e w2 ⟨rfl, b2⟩; rw [hk]; have u2 := Lib.hid (u1.out.trans (b2.mono u1.out.size)); clear b2)
            | (clear tk2; go_at_call 76; refine (isBlock_ok _ n' c ts b _ (hh.out.up u2.out) hn).mono ?_; rintro e w3 ⟨rfl, b3⟩; rw [hk2]; have u3 := Lib.hid (u2.out.trans (b3.mono u2.out.size)); clear b3))
          go_ret2
          exact hfin'.out hok.out _ u3.out
      · obtain ⟨_, t, rfl, htl⟩ := okK_iff.1 hk2
        have htn : t < n' := by rw [← hl.out]; exact htl
        clear htl
        cases hd : inB d 0 100000
        · have hok := Lib.hid (mv_no3 (ts := ts) (xs := xs) (f := f) (t := t) hd)
          have hcase : d < 0 ∨ (¬ d < 0 ∧ 100000 < d) := by
            by_cases e : d < 0
            · exact .inl e
            · by_cases e' : 100000 < d
              · exact .inr ⟨e, e'⟩
              · rw [inB_true (by omega) (by omega)] at hd; cases hd
          rcases hcase with g1 | ⟨g1, g2⟩
          all_goals
            go_enter Try.func42, Try.ntmps42
            have tk0 : True := trivial
            have tk1 : True := trivial
            have tk2 : True := trivial
            go_wp2_with (first
              | (clear tk0; go_at_call 80; refine (areOwn_any A A' n' n' c c' ts xs _ hh.out hh'.out hn hn').mono ?_; rintro e w1 ⟨rfl, b1⟩; rw [hg]; have u1 := Lib.hid b1; clear b1)
              | (clear tk1; go_at_call 76; refine (isBlock_ok _ n' c ts f _ (hh.out.up u1.out) hn).mono ?_; rintro e w2 ⟨rfl, b2⟩; rw [hk]; have u2 := Lib.hid (u1.out.trans (b2.mono u1.out.size)); clear b2)
              | (clear tk2; go_at_call 76; refine (isBlock_ok _ n' c ts t _ (hh.out.up u2.out) hn).mono ?_; rintro e w3 ⟨rfl, b3⟩; rw [hk2]; have u3 := Lib.hid (u2.out.trans (b3.mono u2.out.size)); clear b3))
            go_ret2
            exact hfin'.out hok.out _ u3.out
        · obtain ⟨d0, d1⟩ := inB_iff.1 hd
          obtain ⟨hmv, hyb, hxb⟩ := mv_steps hg (f := f) (t := t) (by rw [hl.out]; exact hfn) (by rw [hl.out]; exact htn) d0 d1
          have hokk := Lib.hid (mv_yes hg (f := f) (t := t) (by rw [hl.out]; exact hfn) (by rw [hl.out]; exact htn) hd)
          obtain ⟨x, hx⟩ : ∃ x, getI xs f = x := ⟨_, rfl⟩
          rw [hx] at hmv hyb hxb
          obtain ⟨y, hy⟩ : ∃ y, getI (xs.set f (x - d)) t = y := ⟨_, rfl⟩
          rw [hy] at hmv hyb
          obtain ⟨y0, y1⟩ := hyb
          obtain ⟨x0, x1⟩ := hxb
          have hmv' := Lib.hid hmv
          have hx' := Lib.hid hx
          have hy' := Lib.hid hy
          obtain ⟨ab, ao, rfl, _, _⟩ := hh'.out.2 0 hpos
          have hfI : (f : Int) < (n' : Int) := by omega
          have htI : (t : Int) < (n' : Int) := by omega
          have hg1 : ¬ d < 0 := by omega
          have hg2 : ¬ 100000 < d := by omega
          clear hmv hx hy
          cases hfinal : ownB ts (mvL xs f t d)
          all_goals
            go_enter Try.func42, Try.ntmps42
            have tk0 : True := trivial
            have tk1 : True := trivial
            have tk2 : True := trivial
            have tk3 : True := trivial
            have tk4 : True := trivial
            go_wp2_with (first
              | (clear tk0; go_at_call 80; refine (areOwn_any A _ n' n' c c' ts xs _ hh.out hh'.out hn hn').mono ?_; rintro e w1 ⟨rfl, b1⟩; rw [hg]; have u1 := Lib.hid b1; clear b1)
              | (clear tk1; go_at_call 76; refine (isBlock_ok _ n' c ts f _ (hh.out.up u1.out) hn).mono ?_; rintro e w2 ⟨rfl, b2⟩; rw [hk]; have u2 := Lib.hid (u1.out.trans (b2.mono u1.out.size)); clear b2)
              | (clear tk2; go_at_call 76; refine (isBlock_ok _ n' c ts t _ (hh.out.up u2.out) hn).mono ?_; rintro e w3 ⟨rfl, b3⟩; rw [hk2]; have u3 := Lib.hid (u2.out.trans (b3.mono u2.out.size)); clear b3)
              | (clear tk3; go_at_call 81
                 refine (clone_any ab ao n' c' w3.heap.size xs _ (hh'.out.up' u3.out) (Nat.le_refl _) hpos (by omega)).mono ?_
                 rintro e w4 ⟨g, cg, rfl, o4, b4⟩
                 have u4 := Lib.hid (u3.out.trans (b4.mono u3.out.size))
                 have lo := Lib.hid (show w.heap.size ≤ g from Nat.le_trans u3.out.size (o4.low _ rfl).1)
                 obtain ⟨g', m, fx, e, hm, hrow, hf⟩ := o4.own hpos
                 cases e
                 have c1 := hrow.cell (i := f) (by omega)
                 have z1 := hrow.frozen f
                 rw [hf f hfn, show xs[f]?.getD 0 = x from hx'.out] at c1
                 have o5 := o4.setAt' hfn (x - d)
                 obtain ⟨g', m', fy, e, hm', hrow', hf'⟩ := o5.own hpos
                 cases e
                 have c2 := hrow'.cell (i := t) (by omega)
                 have z2 := hrow'.frozen t
                 rw [hf' t htn, show (xs.set f (x - d))[t]?.getD 0 = y from hy'.out] at c2
                 have o6 := Lib.hid (show OwnAt ((w4.setCell ⟨g, f, none⟩ (.int .i64 (x - d))).setCell ⟨g, t, none⟩ (.int .i64 (y + d))) w3.heap.size (some ⟨g, 0, none⟩) n' (mvL xs f t d) by rw [hmv'.out]; exact o5.setAt' htn (y + d))
                 have u6 := Lib.hid ((u4.out.setCell (p := ⟨g, f, none⟩) lo.out (.int .i64 (x - d))).setCell (p := ⟨g, t, none⟩) lo.out (.int .i64 (y + d)))
                 clear hrow hf hrow' hf' o5 o4 b4 u4)
              | (clear tk4; go_at_call 80; refine (areOwn_any A _ n' n' c cg ts (mvL xs f t d) _ (hh.out.up u6.out) o6.out.ints hn hn').mono ?_; rintro e w7 ⟨rfl, b7⟩; rw [hfinal]; have u7 := Lib.hid (u6.out.trans (b7.mono u6.out.size)); have o7 := Lib.hid (o6.out.below b7); clear b7))
            go_ret2
            first
              | exact hfin'.out (hokk.out.trans hfinal) _ u7.out
              | exact ⟨_, n', cg, ret_sb (hokk.out.trans hfinal).symm, by rw [mvR_yes (hokk.out.trans hfinal)]; exact o7.out.fewer u3.out.size, u7.out⟩

set_option maxRecDepth 100000 in
set_option maxHeartbeats 1600000 in
theorem specMv_any (A : Option Addr) (n c : Nat) (ts : List Blk) (A' : Option Addr) (n' c' : Nat) (xs : List Int) (a b d : Int) (w : World) (h : BlksAt w w.heap.size A n ts) (h' : IntsAt w w.heap.size A' n' xs) (hn : n ≤ 1048576) (hn' : n' ≤ 1048576) :
    Calls Try.prog 41 #[.slice A n c, .slice A' n' c', .int .i64 a, .int .i64 b, .int .i64 d] w (RetOwn w (mvOk ts xs a b d) (mvR ts xs a b d)) := by
  obtain ⟨i0, hi, hz0, hz1, hz2⟩ := info_parts info3
  have hl := Lib.hid h.1; have hl' := Lib.hid h'.1
  have hh := Lib.hid h; have hh' := Lib.hid h'; clear h h'
  have hfin : ∀ (hok : mvOk ts xs a b d = false) (w1 : World) (b1 : Below w.heap.size w w1), RetOwn w (mvOk ts xs a b d) (mvR ts xs a b d) (.returned (.tuple #[.slice none 0 0, .bool false])) w1 := fun hok w1 b1 =>
    ⟨none, 0, 0, ret_sb hok.symm, by rw [mvR_no hok]; exact own_nil _ _, b1⟩
  have hfin' := Lib.hid hfin
  clear hfin
  cases hg : ownB ts xs
  · have hok := Lib.hid (mv_no0 (f := a) (t := b) (y := d) hg)
    go_enter Try.func41, Try.ntmps41
    go_wp2_with (go_at_call 78; refine (l7Own_any A A' n n' c c' ts xs _ hh.out hh'.out hn hn').mono ?_; rintro e w1 ⟨rfl, b1⟩; rw [hg])
    go_ret2
    exact hfin'.out hok.out _ b1
  · obtain ⟨ht0, hlx, ha⟩ := ownB_iff.1 hg
    have ht := Lib.hid ht0
    have hn0 : n' = n := by rw [← hl'.out, ← hl.out]; exact hlx
    subst hn0
    have hpos : 0 < n' := by rw [← hl.out]; exact ht0.pos
    have hfew : n' ≤ 24 := by rw [← hl.out]; exact ht0.few
    clear hlx ha ht0
    have hcases : (a < 0 ∨ (¬ a < 0 ∧ (n' : Int) ≤ a)) ∨ ∃ f : Nat, a = f ∧ f < n' := by
      by_cases e : a < 0
      · exact .inl (.inl e)
      · by_cases e' : (n' : Int) ≤ a
        · exact .inl (.inr ⟨e, e'⟩)
        · exact .inr ⟨a.toNat, by omega, by omega⟩
    have hcases2 : (b < 0 ∨ (¬ b < 0 ∧ (n' : Int) ≤ b)) ∨ ∃ f : Nat, b = f ∧ f < n' := by
      by_cases e : b < 0
      · exact .inl (.inl e)
      · by_cases e' : (n' : Int) ≤ b
        · exact .inl (.inr ⟨e, e'⟩)
        · exact .inr ⟨b.toNat, by omega, by omega⟩
    rcases hcases with hc | ⟨f, rfl, hfn⟩
    · have hok := Lib.hid (mv_no1 (ts := ts) (xs := xs) (f := a) (t := b) (y := d) (by
        rcases hc with h | ⟨_, h⟩
        · exact inB_low h
        · exact inB_high (by rw [hl.out]; omega)))
      clear hcases2
      rcases hc with g1 | ⟨g1, g2⟩
      all_goals
        go_enter Try.func41, Try.ntmps41
        go_wp2_with (go_at_call 78; refine (l7Own_any A A' n' n' c c' ts xs _ hh.out hh'.out hn hn').mono ?_; rintro e w1 ⟨rfl, b1⟩; rw [hg])
        go_ret2
        exact hfin'.out hok.out _ b1
    · have hfI : ¬ (n' : Int) ≤ (f : Int) := by omega
      have hfJ : (f : Int) < (n' : Int) := by omega
      rcases hcases2 with hc | ⟨t, rfl, htn⟩
      · have hok := Lib.hid (mv_no2 (ts := ts) (xs := xs) (f := f) (t := b) (y := d) (by
          rcases hc with h | ⟨_, h⟩
          · exact inB_low h
          · exact inB_high (by rw [hl.out]; omega)))
        rcases hc with g1 | ⟨g1, g2⟩
        all_goals
          go_enter Try.func41, Try.ntmps41
          go_wp2_with (go_at_call 78; refine (l7Own_any A A' n' n' c c' ts xs _ hh.out hh'.out hn hn').mono ?_; rintro e w1 ⟨rfl, b1⟩; rw [hg])
          go_ret2
          exact hfin'.out hok.out _ b1
      · have htI : ¬ (n' : Int) ≤ (t : Int) := by omega
        have htJ : (t : Int) < (n' : Int) := by omega
        cases hd : inB d 0 100000
        · have hok := Lib.hid (mv_no3 (ts := ts) (xs := xs) (f := f) (t := t) hd)
          go_enter Try.func41, Try.ntmps41
          have tk0 : True := trivial
          have tk1 : True := trivial
          go_wp2_with (first
            | (clear tk0; go_at_call 78; refine (l7Own_any A A' n' n' c c' ts xs _ hh.out hh'.out hn hn').mono ?_; rintro e w1 ⟨rfl, b1⟩; rw [hg]; have u1 := Lib.hid b1; clear b1)
            | (clear tk1; go_at_call 96; refine (l1In_any _ _ _ _).mono ?_; rintro e w2 ⟨rfl, rfl⟩; rw [hd]))
          go_ret2
          exact hfin'.out hok.out _ u1.out
        · obtain ⟨d0, d1⟩ := inB_iff.1 hd
          obtain ⟨hmv, hyb, hxb⟩ := mv_steps hg (f := f) (t := t) (by rw [hl.out]; exact hfn) (by rw [hl.out]; exact htn) d0 d1
          have hokk := Lib.hid (mv_yes hg (f := f) (t := t) (by rw [hl.out]; exact hfn) (by rw [hl.out]; exact htn) hd)
          obtain ⟨x, hx⟩ : ∃ x, getI xs f = x := ⟨_, rfl⟩
          rw [hx] at hmv hyb hxb
          obtain ⟨y, hy⟩ : ∃ y, getI (xs.set f (x - d)) t = y := ⟨_, rfl⟩
          rw [hy] at hmv hyb
          obtain ⟨y0, y1⟩ := hyb
          obtain ⟨x0, x1⟩ := hxb
          have hmv' := Lib.hid hmv
          have hx' := Lib.hid hx
          have hy' := Lib.hid hy
          obtain ⟨ab, ao, rfl, hab, _⟩ := hh'.out.2 0 hpos
          have hca' := Lib.hid (show ∀ j, j < n' → w.cell? ⟨ab, ao + j, none⟩ = some (.int .i64 (xs[j]?.getD 0)) from fun j hj => by
            obtain ⟨b', o', e, _, hc⟩ := hh'.out.2 j hj
            cases e; exact hc)
          clear hmv hx hy
          cases hfinal : ownB ts (mvL xs f t d)
          all_goals
            go_enter Try.func41, Try.ntmps41
            have tk0 : True := trivial
            have tk1 : True := trivial
            have tk2 : True := trivial
            go_wp2_with (first
              | (clear tk0; go_at_call 78; refine (l7Own_any A _ n' n' c c' ts xs _ hh.out hh'.out hn hn').mono ?_; rintro e w1 ⟨rfl, b1⟩; rw [hg]; have u1 := Lib.hid b1; have h0 := Lib.hid (World.ownsRow_made (base := w1.heap.size) (e := 3) (size := 1) w1 #[] 0 (Nat.le_refl _) (by decide) rfl); clear b1)
              | (clear tk1; go_at_call 96; refine (l1In_any _ _ _ _).mono ?_; rintro e w2 ⟨rfl, rfl⟩; rw [hd])
              | (clear tk2; at_builtin; refine appendAll _ rfl _ _ 24 rfl w1.heap.size i0 Try.underlying24 hi hz0 hz1 hz2 _ [] rfl ?k1 ab ao n' c' xs hl'.out hpos rfl ?k2 ?k3 ?k4 ?k5))
            case k1 => exact h0.out
            case k2 => intro j hj; exact ((u1.out.trans ((Below.refl w.heap.size w1).alloc u1.out.size _)).cell (p := ⟨ab, ao + j, none⟩) hab).trans (hca'.out j hj)
            case k3 => simp; omega
            case k4 => simp
            case k5 =>
              intro g cg w4 h1 h2 h3
              have b4 : Below w1.heap.size w1 w4 := ((Below.refl w1.heap.size w1).alloc (Nat.le_refl _) _).grown h2 (by simp) (fun k e => by cases e; exact Nat.le_refl _)
              have o4 := own_snoc0 hl'.out h1
              have u4 := Lib.hid (u1.out.trans (b4.mono u1.out.size))
              have lo := Lib.hid (show w.heap.size ≤ g from Nat.le_trans u1.out.size (o4.low _ rfl).1)
              obtain ⟨g', m, fx, e, hm, hrow, hf⟩ := o4.own hpos
              cases e
              have c1 := hrow.cell (i := f) (by omega)
              have z1 := hrow.frozen f
              rw [hf f hfn, show xs[f]?.getD 0 = x from hx'.out] at c1
              have o5 := o4.setAt' hfn (x - d)
              obtain ⟨g', m', fy, e, hm', hrow', hf'⟩ := o5.own hpos
              cases e
              have c2 := hrow'.cell (i := t) (by omega)
              have z2 := hrow'.frozen t
              rw [hf' t htn, show (xs.set f (x - d))[t]?.getD 0 = y from hy'.out] at c2
              have o6 := Lib.hid (show OwnAt ((w4.setCell ⟨g, f, none⟩ (.int .i64 (x - d))).setCell ⟨g, t, none⟩ (.int .i64 (y + d))) w1.heap.size (some ⟨g, 0, none⟩) n' (mvL xs f t d) by rw [hmv'.out]; exact o5.setAt' htn (y + d))
              have u6 := Lib.hid ((u4.out.setCell (p := ⟨g, f, none⟩) lo.out (.int .i64 (x - d))).setCell (p := ⟨g, t, none⟩) lo.out (.int .i64 (y + d)))
              clear hrow hf hrow' hf' o5 o4 b4 u4 h1 h2 h3 h0
              go_wp2_with (go_at_call 78; refine (l7Own_any A _ n' n' c cg ts (mvL xs f t d) _ (hh.out.up u6.out) o6.out.ints hn hn').mono ?_; rintro e w7 ⟨rfl, b7⟩; rw [hfinal]; have u7 := Lib.hid (u6.out.trans (b7.mono u6.out.size)); have o7 := Lib.hid (o6.out.below b7); clear b7)
              go_ret2
              first
                | exact hfin'.out (hokk.out.trans hfinal) _ u7.out
                | exact ⟨_, n', cg, ret_sb (hokk.out.trans hfinal).symm, by rw [mvR_yes (hokk.out.trans hfinal)]; exact o7.out.fewer u1.out.size, u7.out⟩
end Go.Proofs.Ytbggglddgpeobab
