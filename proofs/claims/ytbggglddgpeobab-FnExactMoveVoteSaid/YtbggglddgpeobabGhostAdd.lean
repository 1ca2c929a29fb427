/- What is proved here: what AddWeight and MoveVote of the program and of the model return. No conditions but lengths, and that the weights are 64-bit integers. -/
import Derived.Test.YtbggglddgpeobabGhostSpec
namespace Go.Proofs.Ytbggglddgpeobab
open Go.RowKit

theorem ret_sb {A : Option Addr} {n c : Nat} {a b : Bool} (h : a = b) : Ending.returned (.tuple #[.slice A n c, .bool a]) = Ending.returned (.tuple #[.slice A n c, .bool b]) := by rw [h]
theorem wrap_neg (x y : Int) : wrap64 (x + -y) = wrap64 (x - y) := by rw [Int.sub_eq_add_neg]
theorem backOk_len {ts : List Blk} {xs : List Int} (hg : goodT ts = true) (hl : xs.length = ts.length) : backOk ts xs = allB (back ts xs) 0 100000 := by
  unfold backOk; rw [hg, decide_eq_true hl]; rfl
theorem goodW_back {ts : List Blk} {xs : List Int} (ht : Tree ts) (hl : xs.length = ts.length) : goodW (back ts xs) = allB (back ts xs) 0 100000 := goodW_own ht (by rw [back_len, hl])

/-- What ownWeightsOf returns. -/
def RetBack (w : World) (ts : List Blk) (xs : List Int) (e : Ending) (w' : World) : Prop :=
  ∃ A n c, e = .returned (.tuple #[.slice A n c, .bool (backOk ts xs)]) ∧ (backOk ts xs = true → OwnAt w' w.heap.size A n (back ts xs)) ∧ Below w.heap.size w w'

set_option maxRecDepth 100000 in
set_option maxHeartbeats 800000 in
theorem ownOf_any (A : Option Addr) (n c : Nat) (ts : List Blk) (A' : Option Addr) (n' c' : Nat) (xs : List Int) (w : World) (h : BlksAt w w.heap.size A n ts) (h' : IntsAt w w.heap.size A' n' xs) (hn : n ≤ 1048576) (hn' : n' ≤ 1048576) :
    Calls Try.prog 98 #[.slice A n c, .slice A' n' c'] w (RetBack w ts xs) := by
  have hl := Lib.hid h.1; have hl' := Lib.hid h'.1
  have hh := Lib.hid h; have hh' := Lib.hid h'; clear h h'
  cases hg : goodT ts
  · have hok := Lib.hid (show backOk ts xs = false by unfold backOk; rw [hg]; rfl)
    go_enter Try.func98, Try.ntmps98
    go_wp2_with (go_at_call 56; refine (implGoodT_any _ _ _ ts _ hh.out hn).mono ?_; rintro e w1 ⟨rfl, b1⟩; rw [hg])
    go_ret2
    exact ⟨none, 0, 0, ret_sb hok.out.symm, (fun e => absurd (hok.out.symm.trans e) (by decide)), b1⟩
  · by_cases he : n' = n
    · subst he
      have ht0 := goodT_iff.1 hg
      have ht := Lib.hid ht0
      have hok := Lib.hid (backOk_len hg (by rw [hl.out, hl'.out]) : backOk ts xs = allB (back ts xs) 0 100000)
      have hgw := Lib.hid (goodW_back ht0 (by rw [hl.out, hl'.out]) : goodW (back ts xs) = allB (back ts xs) 0 100000)
      have hpos : 0 < n' := by rw [← hl.out]; exact ht0.pos
      have hfew : n' ≤ 24 := by rw [← hl.out]; exact ht0.few
      obtain ⟨ab, ao, rfl, hab, _⟩ := hh'.out.2 0 hpos
      obtain ⟨tb, to, rfl, _, _⟩ := hh.out.2 0 hpos
      have hq : ((n' : Int) != (n' : Int)) = false := by simp
      clear ht0
      go_enter Try.func98, Try.ntmps98
      go_wp2_with (first
        | (go_at_call 56; refine (implGoodT_any _ _ _ ts _ hh.out hn).mono ?_; rintro e w1 ⟨rfl, b1⟩; rw [hg]; have u1 := Lib.hid b1; clear b1)
        | (go_at_call 81
           refine (clone_any ab ao n' c' w1.heap.size xs _ (hh'.out.up' u1.out) (Nat.le_refl _) hpos (by omega)).mono ?_
           rintro e w2 ⟨g, cg, rfl, o2, b2⟩
           have o2' := Lib.hid o2
           have u2 := Lib.hid (u1.out.trans (b2.mono u1.out.size))
           have lo := Lib.hid (show w.heap.size ≤ g from Nat.le_trans u1.out.size (o2.low _ rfl).1)
           clear o2 b2))
      go_loopw [7] (fun i wr => ∃ k : Nat, 1 ≤ k ∧ k ≤ n' ∧ i = .int .i64 k ∧ Hid (OwnAt wr w1.heap.size (some ⟨g, 0, none⟩) n' (backs ts xs k)) ∧ Hid (Below w.heap.size w wr)) (fun i _ => n' - (intOf i).toNat)
      case atStart => exact ⟨1, Nat.le_refl _, hpos, rfl, Lib.hid (by rw [backs_one]; exact o2'.out), u2⟩
      case round =>
        obtain ⟨k, hk1, hk, rfl, ho, hbel⟩ := hrel
        by_cases hlt : k < n'
        · have hp := ht.out.up (k := k) (by rw [hl.out]; exact hlt) (by omega)
          obtain ⟨p, hpe⟩ : ∃ p, parN ts k = p := ⟨_, rfl⟩
          obtain ⟨tb', to', e, htb, hc0, _⟩ := hh.out.2 k hlt
          cases e
          have hc := (hbel.out.cell (p := ⟨tb, to + k * 2, none⟩) htb).trans hc0
          rw [show (ts[k]?.getD (0, 0)).1 = (p : Int) from by rw [← hpe]; exact hp.1] at hc
          have hpk : p < k := by rw [← hpe]; exact hp.2
          obtain ⟨y, hy⟩ : ∃ y, getI xs k = y := ⟨_, rfl⟩
          have hst := Lib.hid (backs_step (ts := ts) (xs := xs) (k := k) (by omega))
          rw [hpe, hy] at hst
          obtain ⟨ab', ao', e, _, hx0⟩ := hh'.out.2 k hlt
          cases e
          have dy := (hbel.out.cell (p := ⟨ab, ao + k, none⟩) hab).trans hx0
          rw [show xs[k]?.getD 0 = y from hy] at dy
          obtain ⟨g', m, f, e, hm, hrow, hf⟩ := ho.out.own hpos
          cases e
          have d1 := hrow.cell (i := p) (by omega)
          have fz := hrow.frozen p
          rw [hf p (by omega)] at d1
          obtain ⟨x, hx⟩ : ∃ x, (backs ts xs k)[p]?.getD 0 = x := ⟨_, rfl⟩
          rw [hx] at d1
          have o9 := Lib.hid (show OwnAt (wr.setCell ⟨g, p, none⟩ (.int .i64 (wrap64 (x - y)))) w1.heap.size (some ⟨g, 0, none⟩) n' (backs ts xs (k + 1)) by
            rw [hst.out]
            unfold addI getI
            rw [hx, wrap_neg]
            exact ho.out.setAt' (by omega) _)
          have b9 := Lib.hid (hbel.out.setCell (p := ⟨g, p, none⟩) lo.out (.int .i64 (wrap64 (x - y))))
          have hkI : (k : Int) < (n' : Int) := by omega
          have hpI : (p : Int) < (n' : Int) := by omega
          have hpn : p < n' := by omega
          clear hp hpe hc0 hx0 hrow hf hx hy ho hbel hst
          go_wp2_with fail
          go_still_tail 14, (by kernel_rfl)
          change wpList _ _ _ _ _ wr.drew
          go_wp2_with fail
          go_roundw
          case rel => exact ⟨k + 1, by omega, by omega, by go_num, ⟨o9.out.1, o9.out.2, o9.out.3⟩, ⟨b9.out.1, b9.out.2, b9.out.3, b9.out.4, b9.out.5⟩⟩
          case measure => simp [intOf]; omega
        · have hkn : k = n' := by omega
          have o9 := Lib.hid (show OwnAt wr w1.heap.size (some ⟨g, 0, none⟩) n' (back ts xs) by unfold back; rw [hl.out]; rw [hkn] at ho; exact ho.out)
          clear hkn
          cases ha : allB (back ts xs) 0 100000
          all_goals
            go_wp2_with (go_at_call 137; refine (areWeights_any _ n' cg _ (back ts xs) _ o9.out.ints (by omega)).mono ?_; rintro e w9 ⟨rfl, rfl⟩; rw [hgw.out, ha])
            go_ret2
            exact ⟨_, n', cg, ret_sb (by rw [hok.out, ha]), (fun _ => o9.out.fewer u1.out.size), hbel.out⟩
    · have hok := Lib.hid (show backOk ts xs = false by unfold backOk; rw [decide_eq_false (by rw [hl.out, hl'.out]; exact he)]; simp)
      have hq : ((n' : Int) != (n : Int)) = true := by simp; omega
      go_enter Try.func98, Try.ntmps98
      go_wp2_with (go_at_call 56; refine (implGoodT_any _ _ _ ts _ hh.out hn).mono ?_; rintro e w1 ⟨rfl, b1⟩; rw [hg])
      go_ret2
      exact ⟨none, 0, 0, ret_sb hok.out.symm, (fun e => absurd (hok.out.symm.trans e) (by decide)), b1⟩

theorem addW_no {ts : List Blk} {xs : List Int} {b d : Int} (h : backOk ts xs = false) : addWOk ts xs b d = false := by unfold addWOk; rw [h]; rfl
theorem addWR_no {ts : List Blk} {xs : List Int} {b d : Int} (h : addWOk ts xs b d = false) : addWR ts xs b d = [] := by unfold addWR; rw [h]; rfl
theorem addW_yes {ts : List Blk} {xs : List Int} {k : Nat} {d : Int} (h : backOk ts xs = true) (hk : k < ts.length) : addWOk ts xs k d = inB d (-(getI (back ts xs) k)) (100000 - getI (back ts xs) k) := by
  unfold addWOk; rw [h, inB_true (by omega) (by omega), Int.toNat_natCast]; rfl

set_option maxRecDepth 100000 in
set_option maxHeartbeats 1600000 in
theorem implAddW_any (A : Option Addr) (n c : Nat) (ts : List Blk) (A' : Option Addr) (n' c' : Nat) (xs : List Int) (a d : Int) (w : World) (h : BlksAt w w.heap.size A n ts) (h' : IntsAt w w.heap.size A' n' xs) (hn : n ≤ 1048576) (hn' : n' ≤ 1048576) (_ : I64s xs) :
    Calls Try.prog 40 #[.slice A n c, .slice A' n' c', .int .i64 a, .int .i64 d] w (RetOwn w (addWOk ts xs a d) (addWR ts xs a d)) := by
  have hl := Lib.hid h.1; have hl' := Lib.hid h'.1
  have hh := Lib.hid h; have hh' := Lib.hid h'; clear h h'
  have hS := Lib.hid (ownOf_any A n c ts A' n' c' xs w hh.out hh'.out hn hn')
  cases hb : backOk ts xs
  · have hok := Lib.hid (addW_no (b := a) (d := d) hb)
    have hR := Lib.hid (addWR_no hok.out)
    unfold RetBack at hS
    rw [hb] at hS
    go_enter Try.func40, Try.ntmps40
    go_wp2_with (go_at_call 98; refine hS.out.mono ?_; rintro e w1 ⟨A1, n1, c1, rfl, _, b1⟩)
    go_ret2
    exact ⟨none, 0, 0, ret_sb hok.out.symm, by rw [hR.out]; exact own_nil _ _, b1⟩
  · unfold RetBack at hS
    rw [hb] at hS
    obtain ⟨ht0, hlx, ha⟩ := backOk_iff.1 hb
    have ht := Lib.hid ht0
    have hn0 : n' = n := by rw [← hl'.out, ← hl.out]; exact hlx
    subst hn0
    have hpos : 0 < n' := by rw [← hl.out]; exact ht0.pos
    have hfew : n' ≤ 24 := by rw [← hl.out]; exact ht0.few
    have hbl := Lib.hid (show (back ts xs).length = n' by rw [back_len, hl'.out])
    have hbd := Lib.hid (fun k (hk : k < n') => allB_at ha k (by rw [hbl.out]; exact hk))
    have hgt := goodT_iff.2 ht0
    clear ht0 hlx ha
    cases hk : okK ts a
    · have hok := Lib.hid (show addWOk ts xs a d = false by
        unfold okK at hk
        rw [hgt, Bool.true_and] at hk
        unfold addWOk; rw [hk]; simp)
      have hR := Lib.hid (addWR_no hok.out)
      clear hgt
      go_enter Try.func40, Try.ntmps40
      go_wp2_with (first
        | (go_at_call 98; refine hS.out.mono ?_; rintro e w1 ⟨A1, n1, c1, rfl, _, b1⟩; have u1 := Lib.hid b1; clear b1)
        | (go_at_call 76; refine (isBlock_ok _ n' c ts a _ (hh.out.up u1.out) hn).mono ?_; rintro e w2 ⟨rfl, b2⟩; rw [hk]; have u2 := Lib.hid (u1.out.trans (b2.mono u1.out.size)); clear b2))
      go_ret2
      exact ⟨none, 0, 0, ret_sb hok.out.symm, by rw [hR.out]; exact own_nil _ _, u2.out⟩
    · obtain ⟨_, k, rfl, hkl⟩ := okK_iff.1 hk
      have hkn : k < n' := by rw [← hl.out]; exact hkl
      have hokd := Lib.hid (addW_yes (d := d) hb hkl)
      obtain ⟨y0, y1⟩ := hbd.out k hkn
      obtain ⟨y, hy⟩ : ∃ y, getI (back ts xs) k = y := ⟨_, rfl⟩
      rw [hy] at hokd y0 y1
      have hy' := Lib.hid hy
      have hkI : (k : Int) < (n' : Int) := by omega
      clear hkl hgt hy
      have hfail : (d < -y ∨ (¬ d < -y ∧ 100000 - y < d)) ∨ (¬ d < -y ∧ ¬ 100000 - y < d) := by omega
      rcases hfail with hfail | ⟨g1, g2⟩
      · have hok := Lib.hid (show addWOk ts xs (k : Int) d = false by
          rw [hokd.out]
          rcases hfail with h | ⟨_, h⟩
          · exact inB_low h
          · exact inB_high h)
        have hR := Lib.hid (addWR_no hok.out)
        rcases hfail with g1 | ⟨g1, g2⟩
        all_goals
          go_enter Try.func40, Try.ntmps40
          go_wp2_with (first
            | (go_at_call 98; refine hS.out.mono ?_; rintro e w1 ⟨A1, n1, c1, rfl, o1, b1⟩; have u1 := Lib.hid b1; have o1' := Lib.hid (o1 rfl); clear b1 o1)
            | (go_at_call 76; refine (isBlock_ok _ _ c ts k _ (hh.out.up u1.out) hn).mono ?_; rintro e w2 ⟨rfl, b2⟩; rw [hk]; have u2 := Lib.hid (u1.out.trans (b2.mono u1.out.size)); have o2 := Lib.hid (o1'.out.below b2); clear b2 o1'
               have hn1 : n1 = n' := by rw [← o2.out.len]; exact hbl.out
               subst hn1
               obtain ⟨sb, so, rfl, _, hsc⟩ := o2.out.ints.2 k hkn
               rw [show (back ts xs)[k]?.getD 0 = y from hy'.out] at hsc))
          go_ret2
          exact ⟨none, 0, 0, ret_sb hok.out.symm, by rw [hR.out]; exact own_nil _ _, u2.out⟩
      · have hok := Lib.hid (show addWOk ts xs (k : Int) d = true from hokd.out.trans (inB_true (by omega) (by omega)))
        have hR := Lib.hid (show addWR ts xs (k : Int) d = pathA ts xs k d by unfold addWR; rw [hok.out, if_pos rfl, Int.toNat_natCast])
        obtain ⟨ab, ao, rfl, _, _⟩ := hh'.out.2 0 hpos
        obtain ⟨tb, to, rfl, _, _⟩ := hh.out.2 0 hpos
        go_enter Try.func40, Try.ntmps40
        go_wp2_with (first
          | (go_at_call 98; refine hS.out.mono ?_; rintro e w1 ⟨A1, n1, c1, rfl, o1, b1⟩; have u1 := Lib.hid b1; have o1' := Lib.hid (o1 rfl); clear b1 o1)
          | (go_at_call 76; refine (isBlock_ok _ _ c ts k _ (hh.out.up u1.out) hn).mono ?_; rintro e w2 ⟨rfl, b2⟩; rw [hk]; have u2 := Lib.hid (u1.out.trans (b2.mono u1.out.size)); have o2 := Lib.hid (o1'.out.below b2); clear b2 o1'
             have hn1 : n1 = n' := by rw [← o2.out.len]; exact hbl.out
             subst hn1
             obtain ⟨sb, so, rfl, _, hsc⟩ := o2.out.ints.2 k hkn
             rw [show (back ts xs)[k]?.getD 0 = y from hy'.out] at hsc))
        refine (clone_any ab ao n1 c' w2.heap.size xs _ (hh'.out.up' u2.out) (Nat.le_refl _) hpos (by omega)).mono ?_
        rintro e w3 ⟨g, cg, rfl, o3, b3⟩
        have o3' := Lib.hid o3
        have u3 := Lib.hid (u2.out.trans (b3.mono u2.out.size))
        have lo := Lib.hid (show w.heap.size ≤ g from Nat.le_trans u2.out.size (o3.low _ rfl).1)
        clear o3 b3 hsc
        go_wp2_with fail
        go_loopw [13] (fun i wr => ∃ (v : Int) (cur : List Int), i = .int .i64 v ∧ Hid (OwnAt wr w2.heap.size (some ⟨g, 0, none⟩) n1 cur) ∧ Hid (Below w.heap.size w wr) ∧ ((v = -1 ∧ Hid (cur = pathA ts xs k d)) ∨ ∃ j : Nat, v = j ∧ j < n1 ∧ Hid (pathA ts cur j d = pathA ts xs k d))) (fun i _ => (intOf i + 1).toNat)
        case atStart => exact ⟨k, xs, rfl, o3', u3, .inr ⟨k, rfl, hkn, Lib.hid rfl⟩⟩
        case round =>
          obtain ⟨v, cur, rfl, ho, hbel, ⟨rfl, hcur⟩ | ⟨j, rfl, hj, hcur⟩⟩ := hrel
          · have o9 := Lib.hid (show OwnAt wr w2.heap.size (some ⟨g, 0, none⟩) n1 (pathA ts xs k d) by rw [← hcur.out]; exact ho.out)
            clear hcur ho
            go_wp2_with fail
            go_ret2
            exact ⟨_, n1, cg, ret_sb hok.out.symm, by rw [hR.out]; exact o9.out.fewer u2.out.size, hbel.out⟩
          · obtain ⟨g', m, f, e, hm, hrow, hf⟩ := ho.out.own hpos
            cases e
            have d1 := hrow.cell (i := j) (by omega)
            have fz := hrow.frozen j
            rw [hf j hj] at d1
            obtain ⟨x, hx⟩ : ∃ x, cur[j]?.getD 0 = x := ⟨_, rfl⟩
            rw [hx] at d1
            have o9 := Lib.hid (show OwnAt (wr.setCell ⟨g, j, none⟩ (.int .i64 (wrap64 (x + d)))) w2.heap.size (some ⟨g, 0, none⟩) n1 (addI cur j d) by
              unfold addI getI; rw [hx]; exact ho.out.setAt' hj _)
            have b9 := Lib.hid (hbel.out.setCell (p := ⟨g, j, none⟩) lo.out (.int .i64 (wrap64 (x + d))))
            obtain ⟨tb', to', e, htb, hc0, _⟩ := hh.out.2 j hj
            cases e
            have hc := (b9.out.cell (p := ⟨tb, to + j * 2, none⟩) htb).trans hc0
            have hjI : (j : Int) < (n1 : Int) := by omega
            have hj1 : ((j : Int) != -1) = true := by simp <;> omega
            clear hc0 hrow hf hx ho hbel
            by_cases hj0 : j = 0
            · have hne := Lib.hid (show addI cur j d = pathA ts xs k d by rw [← hcur.out, hj0, pathA_root])
              rw [show (ts[j]?.getD (0, 0)).1 = -1 from by rw [hj0]; exact ht.out.root] at hc
              clear hj0 hcur
              go_wp2_with fail
              go_roundw
              case rel => exact ⟨-1, _, rfl, o9, b9, .inl ⟨rfl, hne⟩⟩
              case measure => simp [intOf] <;> omega
            · have hu := ht.out.up (k := j) (by rw [hl.out]; exact hj) hj0
              obtain ⟨p, hp⟩ : ∃ p, parN ts j = p := ⟨_, rfl⟩
              have hne := Lib.hid (show pathA ts (addI cur j d) p d = pathA ts xs k d by rw [← hp, ← pathA_step ht.out cur (by rw [hl.out]; exact hj) hj0 d]; exact hcur.out)
              rw [show (ts[j]?.getD (0, 0)).1 = (p : Int) from by rw [← hp]; exact hu.1] at hc
              have hpj : p < j := by rw [← hp]; exact hu.2
              clear hj0 hcur hu hp
              go_wp2_with fail
              go_roundw
              case rel => exact ⟨p, _, rfl, o9, b9, .inr ⟨p, rfl, by omega, hne⟩⟩
              case measure => simp [intOf] <;> omega
end Go.Proofs.Ytbggglddgpeobab
