/- What is proved here: what the model's l7Back and AddWeight, and MoveVote of the program and of the model return. No conditions but lengths, and that the weights are 64-bit integers. -/
import Derived.Test.YtbggglddgpeobabGhostAdd
namespace Go.Proofs.Ytbggglddgpeobab
open Go.RowKit

set_option maxRecDepth 100000 in
set_option maxHeartbeats 800000 in
theorem l7Back_any (A : Option Addr) (n c : Nat) (ts : List Blk) (A' : Option Addr) (c' : Nat) (xs : List Int) (w : World) (h : BlksAt w w.heap.size A n ts) (h' : IntsAt w w.heap.size A' n xs) (ht0 : Tree ts) :
    Calls Try.prog 97 #[.slice A n c, .slice A' n c'] w (fun e w' => ∃ g c1, e = .returned (.slice (some ⟨g, 0, none⟩) n c1) ∧ OwnAt w' w.heap.size (some ⟨g, 0, none⟩) n (back ts xs) ∧ Below w.heap.size w w') := by
  obtain ⟨i0, hi, hz0, hz1, hz2⟩ := info_parts info3
  have hl := Lib.hid h.1; have hl' := Lib.hid h'.1
  have hh := Lib.hid h; have hh' := Lib.hid h'; clear h h'
  have ht := Lib.hid ht0
  have hpos : 0 < n := by rw [← hl.out]; exact ht0.pos
  have hfew : n ≤ 24 := by rw [← hl.out]; exact ht0.few
  obtain ⟨ab, ao, rfl, hab, hca⟩ := hh'.out.2 0 hpos
  obtain ⟨tb, to, rfl, _, _⟩ := hh.out.2 0 hpos
  have hca' := Lib.hid (show ∀ j, j < n → w.cell? ⟨ab, ao + j, none⟩ = some (.int .i64 (xs[j]?.getD 0)) from fun j hj => by
    obtain ⟨b', o', e, _, hc⟩ := hh'.out.2 j hj
    cases e; exact hc)
  have h0 := Lib.hid (World.ownsRow_made (base := w.heap.size) (e := 3) (size := 1) w #[] 0 (Nat.le_refl _) (by decide) rfl)
  clear ht0 hca
  go_enter Try.func97, Try.ntmps97
  go_wp2_with (at_builtin; refine appendAll _ rfl _ _ 24 rfl w.heap.size i0 Try.underlying24 hi hz0 hz1 hz2 _ [] rfl ?k1 ab ao n c' xs hl'.out hpos rfl ?k2 ?k3 ?k4 ?k5)
  case k1 => exact h0.out
  case k2 => intro j hj; exact (((Below.refl w.heap.size w).alloc (Nat.le_refl _) _).cell (p := ⟨ab, ao + j, none⟩) (by show ab < w.heap.size; exact hab)).trans (hca'.out j hj)
  case k3 => simp; omega
  case k4 => simp
  case k5 =>
    intro g cg w1 h1 h2 h3
    have b1 : Below w.heap.size w w1 := ((Below.refl w.heap.size w).alloc (Nat.le_refl _) _).grown h2 (by simp) (fun k e => by cases e; exact Nat.le_refl _)
    have o1 := own_snoc0 hl'.out h1
    have o1' := Lib.hid o1; have b1' := Lib.hid b1
    have lo := Lib.hid (show w.heap.size ≤ g from (o1.low _ rfl).1)
    clear h1 h2 h3 b1 o1 h0
    go_wp2_with fail
    go_loopw [6] (fun i wr => ∃ k : Nat, 1 ≤ k ∧ k ≤ n ∧ i = .int .i64 k ∧ Hid (OwnAt wr w.heap.size (some ⟨g, 0, none⟩) n (backs ts xs k)) ∧ Hid (Below w.heap.size w wr)) (fun i _ => n - (intOf i).toNat)
    case atStart => exact ⟨1, Nat.le_refl _, hpos, rfl, Lib.hid (by rw [backs_one]; exact o1'.out), b1'⟩
    case round =>
      obtain ⟨k, hk1, hk, rfl, ho, hbel⟩ := hrel
      by_cases hlt : k < n
      · have hp := ht.out.up (k := k) (by rw [hl.out]; exact hlt) (by omega)
        obtain ⟨p, hpe⟩ : ∃ p, parN ts k = p := ⟨_, rfl⟩
        obtain ⟨tb', to', e, htb, hc0, _⟩ := hh.out.2 k hlt
        cases e
        have hc := (hbel.out.cell (p := ⟨tb, to + k * 2, none⟩) htb).trans hc0
        rw [show (ts[k]?.getD (0, 0)).1 = (p : Int) from by rw [← hpe]; exact hp.1] at hc
        have hpk : p < k := by rw [← hpe]; exact hp.2
        obtain ⟨y, hy⟩ : ∃ y, getI xs k = y := ⟨_, rfl⟩
        have hst := Lib.hid (backs_step (ts := ts) (xs := xs) (k := k) (by omega))
        rw [hpe, hy] at hst
        have dy := (hbel.out.cell (p := ⟨ab, ao + k, none⟩) hab).trans (hca'.out k hlt)
        rw [show xs[k]?.getD 0 = y from hy] at dy
        obtain ⟨g', m, f, e, hm, hrow, hf⟩ := ho.out.own hpos
        cases e
        have d1 := hrow.cell (i := p) (by omega)
        have fz := hrow.frozen p
        rw [hf p (by omega)] at d1
        obtain ⟨x, hx⟩ : ∃ x, (backs ts xs k)[p]?.getD 0 = x := ⟨_, rfl⟩
        rw [hx] at d1
        have o9 := Lib.hid (show OwnAt (wr.setCell ⟨g, p, none⟩ (.int .i64 (wrap64 (x - y)))) w.heap.size (some ⟨g, 0, none⟩) n (backs ts xs (k + 1)) by
          rw [hst.out]
          unfold addI getI
          rw [hx, wrap_neg]
          exact ho.out.setAt' (by omega) _)
        have b9 := Lib.hid (hbel.out.setCell (p := ⟨g, p, none⟩) lo.out (.int .i64 (wrap64 (x - y))))
        have hkI : (k : Int) < (n : Int) := by omega
        have hpI : (p : Int) < (n : Int) := by omega
        have hpn : p < n := by omega
        clear hp hpe hc0 hrow hf hx hy ho hbel hst
        go_wp2_with fail
        go_still_tail 14, (by kernel_rfl)
        change wpList _ _ _ _ _ wr.drew
        go_wp2_with fail
        go_roundw
        case rel => exact ⟨k + 1, by omega, by omega, by go_num, ⟨o9.out.1, o9.out.2, o9.out.3⟩, ⟨b9.out.1, b9.out.2, b9.out.3, b9.out.4, b9.out.5⟩⟩
        case measure => simp [intOf]; omega
      · have hkn : k = n := by omega
        have o9 := Lib.hid (show OwnAt wr w.heap.size (some ⟨g, 0, none⟩) n (back ts xs) by unfold back; rw [hl.out]; rw [hkn] at ho; exact ho.out)
        clear hkn
        go_wp2_with fail
        go_ret
        exact ⟨g, cg, by first | rfl | simp, o9.out, hbel.out⟩

theorem ownB_back (ts : List Blk) (xs : List Int) : ownB ts (back ts xs) = backOk ts xs := by
  unfold ownB backOk; rw [back_len]

set_option maxRecDepth 100000 in
set_option maxHeartbeats 1600000 in
theorem specAddW_any (A : Option Addr) (n c : Nat) (ts : List Blk) (A' : Option Addr) (n' c' : Nat) (xs : List Int) (a d : Int) (w : World) (h : BlksAt w w.heap.size A n ts) (h' : IntsAt w w.heap.size A' n' xs) (hn : n ≤ 1048576) (hn' : n' ≤ 1048576) (hx : I64s xs) :
    Calls Try.prog 39 #[.slice A n c, .slice A' n' c', .int .i64 a, .int .i64 d] w (RetOwn w (addWOk ts xs a d) (addWR ts xs a d)) := by
  have hl := Lib.hid h.1; have hl' := Lib.hid h'.1
  have hh := Lib.hid h; have hh' := Lib.hid h'; clear h h'
  have hfin : ∀ (hok : addWOk ts xs a d = false) (w1 : World) (b1 : Below w.heap.size w w1), RetOwn w (addWOk ts xs a d) (addWR ts xs a d) (.returned (.tuple #[.slice none 0 0, .bool false])) w1 := fun hok w1 b1 =>
    ⟨none, 0, 0, ret_sb hok.symm, by rw [addWR_no hok]; exact own_nil _ _, b1⟩
  have hfin' := Lib.hid hfin
  have hx' := Lib.hid hx
  clear hfin hx
  cases hg : goodT ts
  · have hok := Lib.hid (addW_no (b := a) (d := d) (show backOk ts xs = false by unfold backOk; rw [hg]; rfl))
    go_enter Try.func39, Try.ntmps39
    go_wp2_with (go_at_call 57; refine (specGoodT_any _ _ _ ts _ hh.out hn).mono ?_; rintro e w1 ⟨rfl, b1⟩; rw [hg])
    go_ret2
    exact hfin'.out hok.out _ b1
  · by_cases he : n' = n
    · subst he
      have hlx : xs.length = ts.length := by rw [hl.out, hl'.out]
      have hq : ((n' : Int) != (n' : Int)) = false := by simp
      have ht0 := goodT_iff.1 hg
      have ht := Lib.hid ht0
      have hpos : 0 < n' := by rw [← hl.out]; exact ht0.pos
      have hfew : n' ≤ 24 := by rw [← hl.out]; exact ht0.few
      have hob := Lib.hid (ownB_back ts xs)
      have hbl := Lib.hid (show (back ts xs).length = n' by rw [back_len, hl'.out])
      have hlx' := Lib.hid hlx
      clear ht0 hlx
      cases ha : allB xs 0 2400000
      · have hok := Lib.hid (addW_no (b := a) (d := d) (show backOk ts xs = false by
          cases hb : backOk ts xs
          · rfl
          · rw [back_bd hx'.out hb] at ha; cases ha))
        go_enter Try.func39, Try.ntmps39
        go_wp2_with (first
          | (go_at_call 57; refine (specGoodT_any _ _ _ ts _ hh.out hn).mono ?_; rintro e w1 ⟨rfl, b1⟩; rw [hg]; have u1 := Lib.hid b1; clear b1)
          | (go_at_call 95; refine (l1All_any A' n' c' _ xs _ _ _ (hh'.out.up' u1.out) hn').mono ?_; rintro e w2 ⟨rfl, rfl⟩; rw [ha]))
        go_ret2
        exact hfin'.out hok.out _ u1.out
      · by_cases h0 : 0 ≤ a
        · obtain ⟨k, rfl⟩ := Int.eq_ofNat_of_zero_le h0
          clear h0
          by_cases h1 : k < n'
          · have h1I : ¬ (n' : Int) ≤ (k : Int) := by omega
            have h1J : (k : Int) < (n' : Int) := by omega
            cases hd : inB d (-100000) 100000
            · have hok := Lib.hid (show addWOk ts xs (k : Int) d = false by
                cases hb : backOk ts xs
                · exact addW_no hb
                · rw [addW_yes hb (by rw [hl.out]; exact h1)]
                  cases hc : inB d (-(getI (back ts xs) k)) (100000 - getI (back ts xs) k)
                  · rfl
                  · rw [add_small hb (by rw [hl.out]; exact h1) hc] at hd; cases hd)
              go_enter Try.func39, Try.ntmps39
              go_wp2_with (first
                | (go_at_call 57; refine (specGoodT_any _ _ _ ts _ hh.out hn).mono ?_; rintro e w1 ⟨rfl, b1⟩; rw [hg]; have u1 := Lib.hid b1; clear b1)
                | (go_at_call 95; refine (l1All_any A' n' c' _ xs _ _ _ (hh'.out.up' u1.out) hn').mono ?_; rintro e w2 ⟨rfl, rfl⟩; rw [ha])
                | (go_at_call 96; refine (l1In_any _ _ _ _).mono ?_; rintro e w2 ⟨rfl, rfl⟩; rw [hd]))
              go_ret2
              exact hfin'.out hok.out _ u1.out
            · cases hb : backOk ts xs
              · have hok := Lib.hid (addW_no (b := k) (d := d) hb)
                go_enter Try.func39, Try.ntmps39
                go_wp2_with (first
                  | (go_at_call 57; refine (specGoodT_any _ _ _ ts _ hh.out hn).mono ?_; rintro e w1 ⟨rfl, b1⟩; rw [hg]; have u1 := Lib.hid b1; clear b1)
                  | (go_at_call 95; refine (l1All_any A' n' c' _ xs _ _ _ (hh'.out.up' u1.out) hn').mono ?_; rintro e w2 ⟨rfl, rfl⟩; rw [ha])
                  | (go_at_call 96; refine (l1In_any _ _ _ _).mono ?_; rintro e w2 ⟨rfl, rfl⟩; rw [hd])
                  | (go_at_call 97; refine (l7Back_any A n' c ts A' c' xs _ (hh.out.up u1.out) (hh'.out.up' u1.out) ht.out).mono ?_; rintro e w3 ⟨g, c3, rfl, o3, b3⟩; have u3 := Lib.hid (u1.out.trans (b3.mono u1.out.size)); have o3' := Lib.hid o3; clear b3 o3)
                  | (go_at_call 78; refine (l7Own_any A _ n' n' c c3 ts (back ts xs) _ (hh.out.up u3.out) o3'.out.ints hn hn').mono ?_; rintro e w4 ⟨rfl, b4⟩; rw [hob.out, hb]; have u4 := Lib.hid (u3.out.trans (b4.mono u3.out.size)); clear b4))
                go_ret2
                exact hfin'.out hok.out _ u4.out
              · have hk : k < ts.length := by rw [hl.out]; exact h1
                have hown := Lib.hid (add_own hb hk hd)
                have hokk := Lib.hid (show ownB ts (addI (back ts xs) k d) = addWOk ts xs (k : Int) d by rw [hown.out, addW_yes hb hk])
                have hres := Lib.hid (show subR ts (addI (back ts xs) k d) = addWR ts xs (k : Int) d by
                  unfold subR addWR
                  rw [hokk.out, Int.toNat_natCast, sub_path ht.out d hk hlx'.out hx'.out])
                have hbk := allB_at (backOk_iff.1 hb).2.2 k (by rw [hbl.out]; exact h1)
                obtain ⟨d0, d1⟩ := inB_iff.1 hd
                obtain ⟨y, hy⟩ : ∃ y, getI (back ts xs) k = y := ⟨_, rfl⟩
                rw [hy] at hbk
                obtain ⟨y0, y1⟩ := hbk
                have hadd := Lib.hid (show addI (back ts xs) k d = (back ts xs).set k (y + d) by
                  unfold addI; rw [hy, show wrap64 (y + d) = y + d by unfold wrap64; omega])
                have hy' := Lib.hid hy
                clear hy hk hown
                go_enter Try.func39, Try.ntmps39
                go_wp2_with (first
                  | (go_at_call 57; refine (specGoodT_any _ _ _ ts _ hh.out hn).mono ?_; rintro e w1 ⟨rfl, b1⟩; rw [hg]; have u1 := Lib.hid b1; clear b1)
                  | (go_at_call 95; refine (l1All_any A' n' c' _ xs _ _ _ (hh'.out.up' u1.out) hn').mono ?_; rintro e w2 ⟨rfl, rfl⟩; rw [ha])
                  | (go_at_call 96; refine (l1In_any _ _ _ _).mono ?_; rintro e w2 ⟨rfl, rfl⟩; rw [hd])
                  | (go_at_call 97; refine (l7Back_any A n' c ts A' c' xs _ (hh.out.up u1.out) (hh'.out.up' u1.out) ht.out).mono ?_; rintro e w3 ⟨g, c3, rfl, o3, b3⟩; have u3 := Lib.hid (u1.out.trans (b3.mono u1.out.size)); have o3' := Lib.hid o3; clear b3 o3)
                  | (go_at_call 78; refine (l7Own_any A _ n' n' c c3 ts (back ts xs) _ (hh.out.up u3.out) o3'.out.ints hn hn').mono ?_; rintro e w4 ⟨rfl, b4⟩; rw [hob.out, hb]
                     have o4 := Lib.hid (o3'.out.below b4)
                     have lo := Lib.hid (show w.heap.size ≤ g from Nat.le_trans u1.out.size (o3'.out.low _ rfl).1)
                     have u4 := Lib.hid (u3.out.trans (b4.mono u3.out.size)); clear b4
                     obtain ⟨g', m, f, e, hm, hrow, hf⟩ := o4.out.own hpos
                     cases e
                     have d9 := hrow.cell (i := k) (by omega)
                     have fz := hrow.frozen k
                     rw [hf k h1, show (back ts xs)[k]?.getD 0 = y from hy'.out] at d9
                     have o5 := Lib.hid (show OwnAt (w4.setCell ⟨g, k, none⟩ (.int .i64 (y + d))) _ (some ⟨g, 0, none⟩) n' (addI (back ts xs) k d) by rw [hadd.out]; exact o4.out.setAt' h1 _)
                     have u5 := Lib.hid (u4.out.setCell (p := ⟨g, k, none⟩) lo.out (.int .i64 (y + d)))
                     clear hrow hf o4 o3')
                  | (go_at_call 18; refine (specSub_any A n' c ts _ n' c3 (addI (back ts xs) k d) _ (hh.out.up u5.out) o5.out.ints hn hn').mono ?_; rintro e w6 ⟨A6, n6, c6, rfl, o6, b6⟩; have u6 := Lib.hid (u5.out.trans (b6.mono u5.out.size)); have o6' := Lib.hid (o6.fewer u5.out.size); clear b6 o6))
                go_ret2
                exact ⟨A6, n6, c6, ret_sb hokk.out, by rw [← hres.out]; exact o6'.out, u6.out⟩
          · have h1I : (n' : Int) ≤ (k : Int) := by omega
            have hok := Lib.hid (show addWOk ts xs (k : Int) d = false by unfold addWOk; rw [inB_high (lo := 0) (show (ts.length : Int) - 1 < (k : Int) by rw [hl.out]; omega)]; simp)
            go_enter Try.func39, Try.ntmps39
            go_wp2_with (first
              | (go_at_call 57; refine (specGoodT_any _ _ _ ts _ hh.out hn).mono ?_; rintro e w1 ⟨rfl, b1⟩; rw [hg]; have u1 := Lib.hid b1; clear b1)
              | (go_at_call 95; refine (l1All_any A' n' c' _ xs _ _ _ (hh'.out.up' u1.out) hn').mono ?_; rintro e w2 ⟨rfl, rfl⟩; rw [ha]))
            go_ret2
            exact hfin'.out hok.out _ u1.out
        · have h0' : a < 0 := by omega
          have hok := Lib.hid (show addWOk ts xs a d = false by unfold addWOk; rw [inB_low (hi := (ts.length : Int) - 1) h0']; simp)
          go_enter Try.func39, Try.ntmps39
          go_wp2_with (first
            | (go_at_call 57; refine (specGoodT_any _ _ _ ts _ hh.out hn).mono ?_; rintro e w1 ⟨rfl, b1⟩; rw [hg]; have u1 := Lib.hid b1; clear b1)
            | (go_at_call 95; refine (l1All_any A' n' c' _ xs _ _ _ (hh'.out.up' u1.out) hn').mono ?_; rintro e w2 ⟨rfl, rfl⟩; rw [ha]))
          go_ret2
          exact hfin'.out hok.out _ u1.out
    · have hok := Lib.hid (addW_no (b := a) (d := d) (show backOk ts xs = false by unfold backOk; rw [decide_eq_false (by rw [hl.out, hl'.out]; exact he)]; simp))
      have hq : ((n' : Int) != (n : Int)) = true := by simp; omega
      go_enter Try.func39, Try.ntmps39
      go_wp2_with (go_at_call 57; refine (specGoodT_any _ _ _ ts _ hh.out hn).mono ?_; rintro e w1 ⟨rfl, b1⟩; rw [hg])
      go_ret2
      exact hfin'.out hok.out _ b1
end Go.Proofs.Ytbggglddgpeobab
