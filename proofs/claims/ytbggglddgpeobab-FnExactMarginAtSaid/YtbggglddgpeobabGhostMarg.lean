/- What is proved here: what MarginAt of the program and of the model return. No conditions but lengths. -/
import Derived.Test.YtbggglddgpeobabGhostRest
namespace Go.Proofs.Ytbggglddgpeobab
open Go.RowKit

set_option maxRecDepth 100000 in
set_option maxHeartbeats 1600000 in
theorem implMarg_any (A : Option Addr) (n c : Nat) (ts : List Blk) (A' : Option Addr) (n' c' : Nat) (xs : List Int) (a : Int) (w : World) (h : BlksAt w w.heap.size A n ts) (h' : IntsAt w w.heap.size A' n' xs) (hn : n ≤ 1048576) (hn' : n' ≤ 1048576) :
    Calls Try.prog 26 #[.slice A n c, .slice A' n' c', .int .i64 a] w (UpPost w (.tuple #[.int .i64 (margR ts xs a), .bool (childOK ts xs a)])) := by
  have hl := Lib.hid h.1
  have hh := Lib.hid h; have hh' := Lib.hid h'; clear h h'
  have hS := Lib.hid (implSub_any A n c ts A' n' c' xs w hh.out hh'.out hn hn')
  cases hg : ownB ts xs
  · rw [hg] at hS
    have hok := Lib.hid (show childOK ts xs a = false by unfold childOK; rw [hg]; rfl)
    have hr := Lib.hid (show margR ts xs a = 0 by unfold margR; rw [hok.out]; rfl)
    go_enter Try.func26, Try.ntmps26
    go_wp2_with (go_at_call 17; refine hS.out.mono ?_; rintro e w1 ⟨A1, n1, c1, rfl, o1, b1⟩)
    go_ret2
    exact ⟨ret_two hr.out.symm hok.out.symm, b1⟩
  · rw [hg] at hS
    obtain ⟨ht, hlx, ha⟩ := ownB_iff.1 hg
    have hR := Lib.hid (show subR ts xs = sub ts xs by unfold subR; rw [hg]; rfl)
    have hsl := Lib.hid (show (sub ts xs).length = n by rw [sub_len, hlx, hl.out])
    have hfew : n ≤ 24 := by rw [← hl.out]; exact ht.few
    have hce := Lib.hid (show (goodT ts && inB a 1 (ts.length - 1)) = childOK ts xs a by unfold childOK; rw [hg, goodT_iff.2 ht])
    have hbd := Lib.hid (sub_bd ht hlx ha)
    have ht' := Lib.hid ht
    clear hlx ha ht
    cases hk : childOK ts xs a
    · have hr := Lib.hid (show margR ts xs a = 0 by unfold margR; rw [hk]; rfl)
      go_enter Try.func26, Try.ntmps26
      go_wp2_with (first
        | (go_at_call 17; refine hS.out.mono ?_; rintro e w1 ⟨A1, n1, c1, rfl, o1, b1⟩; have u1 := Lib.hid b1; clear b1 o1)
        | (go_at_call 89; refine (isChild_any _ n c ts a _ (hh.out.up u1.out) hn).mono ?_; rintro e w2 ⟨rfl, b2⟩; rw [hce.out, hk]; have u2 := Lib.hid (u1.out.trans (b2.mono u1.out.size)); clear b2))
      go_ret2
      exact ⟨ret_two hr.out.symm rfl, u2.out⟩
    · obtain ⟨_, b, rfl, hbl, hb0⟩ := childOK_iff.1 hk
      have hbn : b < n := by rw [← hl.out]; exact hbl
      have hup := ht'.out.up hbl hb0
      obtain ⟨p, hp⟩ : ∃ p, parN ts b = p := ⟨_, rfl⟩
      have hpz := Lib.hid (show parZ ts b = (p : Int) from by rw [← hp]; exact hup.1)
      have hp' := Lib.hid hp
      obtain ⟨tb, to, rfl, htb, hcs⟩ := hh.out.at (by omega)
      have hcs' := Lib.hid hcs
      have hbc := Lib.hid (hcs b hbn).1
      rw [show (ts[b]?.getD (0, 0)).1 = (p : Int) from hpz.out] at hbc
      have hr := Lib.hid (show margR ts xs (b : Int) = getI (sub ts xs) b - most ts (getI (sub ts xs)) b n by unfold margR; rw [hk, if_pos rfl, Int.toNat_natCast, hl.out])
      have hmb := Lib.hid (most_bd (ts := ts) (S := getI (sub ts xs)) (b := b) (M := 2400000) (by decide) (fun i => (hbd.out i).2))
      have hbI : (b : Int) < (n : Int) := by omega
      clear hcs hbl hup hp hb0
      go_enter Try.func26, Try.ntmps26
      go_wp2_with (first
        | (go_at_call 17; refine hS.out.mono ?_; rintro e w1 ⟨A1, n1, c1, rfl, o1, b1⟩; rw [hR.out] at o1; have hn1 : n1 = n := by rw [← o1.len]; exact hsl.out
           subst hn1
           have u1 := Lib.hid b1; have o1' := Lib.hid o1; clear b1 o1)
        | (go_at_call 89; refine (isChild_any _ _ c ts b _ (hh.out.up u1.out) hn).mono ?_; rintro e w2 ⟨rfl, b2⟩; rw [hce.out, hk]; have u2 := Lib.hid (u1.out.trans (b2.mono u1.out.size)); have o2' := Lib.hid (o1'.out.below b2); clear b2 o1'))
      obtain ⟨sg, sm, sf, rfl, _, _, _⟩ := o2'.out.own (by omega)
      have hsc := Lib.hid (show ∀ j, j < n1 → w2.cell? ⟨sg, j, none⟩ = some (.int .i64 (getI (sub ts xs) j)) from fun j hj => by
        obtain ⟨b', o', e, _, hc⟩ := o2'.out.ints.2 j hj
        cases e; rw [Nat.zero_add] at hc; exact hc)
      have hsg := Lib.hid (o2'.out.low _ rfl).2
      go_loopw [10, 11, 12, 29] (fun m _ _ i wr => ∃ k : Nat, k ≤ n1 ∧ i = .int .i64 k ∧ m = .int .i64 (most ts (getI (sub ts xs)) b k) ∧ Hid (Below w2.heap.size w2 wr)) (fun _ _ _ i _ => n1 - (intOf i).toNat)
      case atStart => exact ⟨0, Nat.zero_le _, rfl, rfl, Lib.hid (Below.refl _ _)⟩
      case round =>
        obtain ⟨k, hkn, rfl, rfl, hbel⟩ := hrel
        have u9 := Lib.hid (u2.out.trans (hbel.out.mono u2.out.size))
        by_cases hlt : k < n1
        · obtain ⟨q0, hq0⟩ : ∃ q0, (ts[k]?.getD (0, 0)).1 = q0 := ⟨_, rfl⟩
          obtain ⟨q1, hq1⟩ : ∃ q1, (ts[k]?.getD (0, 0)).2 = q1 := ⟨_, rfl⟩
          have d0 := (u9.out.cell (p := ⟨tb, to + k * 2, none⟩) htb).trans (hcs'.out k hlt).1
          have d1 := (u9.out.cell (p := ⟨tb, to + k * 2 + 1, none⟩) htb).trans (hcs'.out k hlt).2
          rw [hq0] at d0
          rw [hq1] at d1
          have hqz := Lib.hid (show parZ ts k = q0 from hq0)
          have hb2 := Lib.hid (hbel.out.alloc hbel.out.size (.cells #[.int .i64 q0, .int .i64 q1] 37))
          have u10 := Lib.hid (u2.out.trans (hb2.out.mono u2.out.size))
          have dB := (u10.out.cell (p := ⟨tb, to + b * 2, none⟩) htb).trans hbc.out
          have dS := (hb2.out.cell (p := ⟨sg, k, none⟩) hsg.out).trans (hsc.out k hlt)
          have hkI : (k : Int) < (n1 : Int) := by omega
          clear hq0 hq1
          obtain ⟨M, hM⟩ : ∃ M, most ts (getI (sub ts xs)) b k = M := ⟨_, rfl⟩
          obtain ⟨s, hs⟩ : ∃ s, getI (sub ts xs) k = s := ⟨_, rfl⟩
          rw [hs] at dS
          by_cases hkb : k = b
          · have hst := Lib.hid (show most ts (getI (sub ts xs)) b (k + 1) = M by
              rw [most_yes (by rw [hkb, hpz.out, hp'.out]), if_neg (fun h => h.1 hkb)]; exact hM)
            have hcb : ((k : Int) != (b : Int)) = false := by simp [hkb]
            rw [hM]
            clear hkb hM hs
            go_wp2_with fail
            go_quiet (fail)
            go_wp2_with fail
            go_roundw
            case rel => exact ⟨k + 1, by omega, by go_num, by rw [hst.out], Lib.hid (below_drewN hb2.out _)⟩
            case measure => simp [intOf]; omega
          · have hcb : ((k : Int) != (b : Int)) = true := by simp; omega
            by_cases hqp : q0 = p
            · subst hqp
              have hcq : ((p : Int) == (p : Int)) = true := by simp
              have hst := Lib.hid (show most ts (getI (sub ts xs)) b (k + 1) = if s > M then s else M by
                rw [most_yes (by rw [hqz.out, hp'.out]), hM, hs]
                by_cases e : M < s
                · rw [if_pos ⟨hkb, e⟩, if_pos e]
                · rw [if_neg (fun h => e h.2), if_neg e])
              have hmx : ∀ (ar : Array TypeId) (t : TypeId) (W : World), (Builtin.max_ ar t #[.int .i64 M, .int .i64 s]).run Try.prog W = .ok (.int .i64 (most ts (getI (sub ts xs)) b (k + 1))) W := fun ar t W => by
                rw [run_max_int2, hst.out]
              rw [hM]
              clear hkb hM hs
              go_wp2_with fail
              go_quiet (fail)
              go_wp2_with fail
              go_roundw
              case rel => exact ⟨k + 1, by omega, by go_num, rfl, Lib.hid (below_drewN hb2.out _)⟩
              case measure => simp [intOf]; omega
            · have hcq : (q0 == (p : Int)) = false := by simp [hqp]
              have hst := Lib.hid (show most ts (getI (sub ts xs)) b (k + 1) = M by
                rw [most_no (by rw [hqz.out, hp'.out]; exact hqp)]; exact hM)
              rw [hM]
              clear hkb hM hs hqp
              go_wp2_with fail
              go_quiet (fail)
              go_wp2_with fail
              go_roundw
              case rel => exact ⟨k + 1, by omega, by go_num, by rw [hst.out], Lib.hid (below_drewN hb2.out _)⟩
              case measure => simp [intOf]; omega
        · have hkn' : k = n1 := by omega
          have hr2 := hr.out
          rw [← hkn'] at hr2
          have dS := (hbel.out.cell (p := ⟨sg, b, none⟩) hsg.out).trans (hsc.out b hbn)
          obtain ⟨x0, x1⟩ := hbd.out b
          obtain ⟨m0, m1⟩ := hmb.out k
          generalize most ts (getI (sub ts xs)) b k = M at hr2 m0 m1 ⊢
          generalize getI (sub ts xs) b = x at dS hr2 x0 x1 ⊢
          have hr3 := Lib.hid hr2
          clear hkn' hr2
          go_wp2_with fail
          go_ret2
          exact ⟨ret_two hr3.out.symm rfl, u9.out⟩

set_option maxRecDepth 100000 in
set_option maxHeartbeats 1600000 in
theorem specMarg_any (A : Option Addr) (n c : Nat) (ts : List Blk) (A' : Option Addr) (n' c' : Nat) (xs : List Int) (a : Int) (w : World) (h : BlksAt w w.heap.size A n ts) (h' : IntsAt w w.heap.size A' n' xs) (hn : n ≤ 1048576) (hn' : n' ≤ 1048576) :
    Calls Try.prog 30 #[.slice A n c, .slice A' n' c', .int .i64 a] w (UpPost w (.tuple #[.int .i64 (margR ts xs a), .bool (childOK ts xs a)])) := by
  have hl := Lib.hid h.1; have hl' := Lib.hid h'.1
  have hh := Lib.hid h; have hh' := Lib.hid h'; clear h h'
  cases hg : ownB ts xs
  · have hok := Lib.hid (show childOK ts xs a = false by unfold childOK; rw [hg]; rfl)
    have hr := Lib.hid (show margR ts xs a = 0 by unfold margR; rw [hok.out]; rfl)
    go_enter Try.func30, Try.ntmps30
    go_wp2_with (go_at_call 78; refine (l7Own_any A A' n n' c c' ts xs _ hh.out hh'.out hn hn').mono ?_; rintro e w1 ⟨rfl, b1⟩; rw [hg])
    go_ret2
    exact ⟨ret_two hr.out.symm hok.out.symm, b1⟩
  · obtain ⟨ht0, hlx, ha⟩ := ownB_iff.1 hg
    have ht := Lib.hid ht0
    have hn0 : n' = n := by rw [← hl'.out, ← hl.out]; exact hlx
    subst hn0
    have hbd := Lib.hid (sub_bd ht0 hlx ha)
    have hfew : n' ≤ 24 := by rw [← hl.out]; exact ht0.few
    have hsl := Lib.hid (show (sub ts xs).length = n' by rw [sub_len, hl'.out])
    clear hlx ha ht0
    by_cases h0 : 1 ≤ a
    · obtain ⟨b, rfl⟩ := Int.eq_ofNat_of_zero_le (show 0 ≤ a by omega)
      by_cases h1 : b < n'
      · have hb0 : b ≠ 0 := by omega
        have hok := Lib.hid (show childOK ts xs (b : Int) = true from childOK_iff.2 ⟨ownB_iff.1 hg, b, rfl, by rw [hl.out]; exact h1, hb0⟩)
        have hu := ht.out.up (k := b) (by rw [hl.out]; exact h1) hb0
        obtain ⟨p, hp⟩ : ∃ p, parN ts b = p := ⟨_, rfl⟩
        have hr := Lib.hid (show margR ts xs (b : Int) = getI (sub ts xs) b - mostL (getI (sub ts xs)) b (kids ts p) by
          unfold margR; rw [hok.out, if_pos rfl, Int.toNat_natCast]; unfold most kids; rw [hp])
        have hmb := Lib.hid (show 0 ≤ mostL (getI (sub ts xs)) b (kids ts p) ∧ mostL (getI (sub ts xs)) b (kids ts p) ≤ 2400000 by
          have := most_bd (ts := ts) (S := getI (sub ts xs)) (b := b) (M := 2400000) (by decide) (fun i => (hbd.out i).2) ts.length
          unfold most at this; rw [hp] at this; exact this)
        obtain ⟨tb, to, e, htb, hc, _⟩ := hh.out.2 b h1
        rw [show (ts[b]?.getD (0, 0)).1 = (p : Int) from by rw [← hp]; exact hu.1] at hc
        have hc' := Lib.hid hc
        have h1I : ¬ (n' : Int) ≤ (b : Int) := by omega
        have h1J : (b : Int) < (n' : Int) := by omega
        have h0I : ¬ (b : Int) < 1 := by omega
        have hkn := Lib.hid (show kidsL ts p n' = kids ts p by unfold kids; rw [hl.out])
        subst e
        clear h0 hu hp hc hb0
        go_enter Try.func30, Try.ntmps30
        go_wp2_with (first
          | (go_at_call 78; refine (l7Own_any _ A' n' n' c c' ts xs _ hh.out hh'.out hn hn').mono ?_; rintro e w1 ⟨rfl, b1⟩; rw [hg]; have u1 := Lib.hid b1; clear b1)
          | (go_at_call 82
             refine (l7Sub_any _ n' c ts A' c' xs _ (hh.out.up u1.out) (hh'.out.up' u1.out) ht.out).mono ?_
             rintro e w2 ⟨A2, n2, c2, rfl, o2, b2⟩
             have hn2 : n2 = n' := by rw [← o2.len]; exact hsl.out
             subst hn2
             have u2 := Lib.hid (u1.out.trans (b2.mono u1.out.size))
             have i2 := Lib.hid o2
             have dP := (u2.out.cell (p := ⟨tb, to + b * 2, none⟩) htb).trans hc'.out
             clear b2 o2)
          | (go_at_call 92
             refine (l4Children_any _ n2 c ts p _ (hh.out.up u2.out) (by omega) ht.out).mono ?_
             rintro e w3 ⟨A3, n3, c3, rfl, o3, b3⟩
             rw [hkn.out] at o3
             have u3 := Lib.hid (u2.out.trans (b3.mono u2.out.size))
             have i3 := Lib.hid (i2.out.below b3)
             have o3' := Lib.hid o3
             clear b3 o3 i2 dP))
        have hln : Hid ((kids ts p).length = n3) := Lib.hid (by have := o3'.out.len; unfold kidsZ at this; simpa using this)
        have hn3 : n3 ≤ 24 := by
          have h1 := List.length_filter_le (fun i => parZ ts i == (p : Int)) (List.range n2)
          have h2 : (kidsL ts p n2).length = n3 := by rw [hkn.out]; exact hln.out
          unfold kidsL at h2
          simp at h1
          omega
        obtain ⟨sg, sm, sf, rfl, _, _, _⟩ := i3.out.own (by omega)
        have hsc := Lib.hid (show ∀ j, j < n2 → w3.cell? ⟨sg, j, none⟩ = some (.int .i64 (getI (sub ts xs) j)) from fun j hj => by
          obtain ⟨b', o', e, _, hc⟩ := i3.out.ints.2 j hj
          cases e; rw [Nat.zero_add] at hc; exact hc)
        have hsg := Lib.hid (i3.out.low _ rfl).2
        go_loopw [9, 11, 37] (fun m _ i wr => ∃ k : Nat, k ≤ n3 ∧ i = .int .i64 k ∧ m = .int .i64 (mostL (getI (sub ts xs)) b ((kids ts p).take k)) ∧ Hid (Below w3.heap.size w3 wr)) (fun _ _ i _ => n3 - (intOf i).toNat)
        case atStart => exact ⟨0, Nat.zero_le _, rfl, rfl, Lib.hid (Below.refl _ _)⟩
        case round =>
          obtain ⟨k, hk, rfl, rfl, hbel⟩ := hrel
          have u9 := Lib.hid (u3.out.trans (hbel.out.mono u3.out.size))
          by_cases hlt : k < n3
          · obtain ⟨kb, ko, rfl, hkb, hkc⟩ := o3'.out.ints.2 k hlt
            have hkl : k < (kids ts p).length := by rw [hln.out]; exact hlt
            rw [kidsZ_at hkl] at hkc
            have hkc' := (hbel.out.cell (p := ⟨kb, ko + k, none⟩) hkb).trans hkc
            obtain ⟨x, hx⟩ : ∃ x, (kids ts p)[k]?.getD 0 = x := ⟨_, rfl⟩
            rw [hx] at hkc'
            have hx' : (kids ts p)[k] = x := by rw [List.getElem?_eq_getElem hkl] at hx; exact hx
            have hxm : x ∈ kids ts p := by rw [← hx']; exact List.getElem_mem hkl
            have hxn : x < n2 := by rw [← hl.out]; exact (kids_mem.1 hxm).1
            have hst := Lib.hid (show mostL (getI (sub ts xs)) b ((kids ts p).take (k + 1)) = if x ≠ b ∧ mostL (getI (sub ts xs)) b ((kids ts p).take k) < getI (sub ts xs) x then getI (sub ts xs) x else mostL (getI (sub ts xs)) b ((kids ts p).take k) by
              rw [List.take_succ_eq_append_getElem hkl, hx', mostL_snoc])
            have dS := (hbel.out.cell (p := ⟨sg, x, none⟩) hsg.out).trans (hsc.out x hxn)
            generalize mostL (getI (sub ts xs)) b ((kids ts p).take k) = M at hst ⊢
            generalize getI (sub ts xs) x = s at hst dS
            have hkI : (k : Int) < (n3 : Int) := by omega
            have hxI : (x : Int) < (n2 : Int) := by omega
            clear hkc hx hx' hxm hkl
            by_cases hxb : x = b
            · have hcb : ((x : Int) != (b : Int)) = false := by simp [hxb]
              have hst2 := Lib.hid (hst.out.trans (if_neg (fun h => h.1 hxb)))
              clear hxb hst
              go_wp2_with fail
              go_roundw
              case rel => exact ⟨k + 1, by omega, by go_num, by rw [hst2.out], hbel⟩
              case measure => simp [intOf]; omega
            · have hcb : ((x : Int) != (b : Int)) = true := by simp; omega
              by_cases hMs : M < s
              · have hd : decide (M < s) = true := decide_eq_true hMs
                have hst2 := Lib.hid (hst.out.trans (if_pos ⟨hxb, hMs⟩))
                clear hxb hst
                go_wp2_with fail
                go_roundw
                case rel => exact ⟨k + 1, by omega, by go_num, by rw [hst2.out], hbel⟩
                case measure => simp [intOf]; omega
              · have hd : decide (M < s) = false := decide_eq_false hMs
                have hst2 := Lib.hid (hst.out.trans (if_neg (fun h => hMs h.2)))
                clear hxb hst
                go_wp2_with fail
                go_roundw
                case rel => exact ⟨k + 1, by omega, by go_num, by rw [hst2.out], hbel⟩
                case measure => simp [intOf]; omega
          · have hkn2 : (kids ts p).take k = kids ts p := List.take_of_length_le (by rw [hln.out]; omega)
            rw [hkn2]
            have hr2 := hr.out
            have dS := (hbel.out.cell (p := ⟨sg, b, none⟩) hsg.out).trans (hsc.out b h1)
            obtain ⟨x0, x1⟩ := hbd.out b
            obtain ⟨m0, m1⟩ := hmb.out
            generalize mostL (getI (sub ts xs)) b (kids ts p) = M at hr2 m0 m1 ⊢
            generalize getI (sub ts xs) b = x at dS hr2 x0 x1 ⊢
            have hr3 := Lib.hid hr2
            clear hr2 hkn2
            go_wp2_with fail
            go_ret2
            exact ⟨ret_two hr3.out.symm hok.out.symm, u9.out⟩
      · have hok := Lib.hid (child_no_high (ts := ts) (xs := xs) (a := b) (by rw [hl.out]; omega))
        have hr := Lib.hid (show margR ts xs (b : Int) = 0 by unfold margR; rw [hok.out]; rfl)
        have h1I : (n' : Int) ≤ (b : Int) := by omega
        have h0I : ¬ (b : Int) < 1 := by omega
        clear h0
        go_enter Try.func30, Try.ntmps30
        go_wp2_with (go_at_call 78; refine (l7Own_any A A' n' n' c c' ts xs _ hh.out hh'.out hn hn').mono ?_; rintro e w1 ⟨rfl, b1⟩; rw [hg])
        go_ret2
        exact ⟨ret_two hr.out.symm hok.out.symm, b1⟩
    · have hok := Lib.hid (child_no_low (ts := ts) (xs := xs) (a := a) (by omega))
      have hr := Lib.hid (show margR ts xs a = 0 by unfold margR; rw [hok.out]; rfl)
      have h0' : a < 1 := by omega
      go_enter Try.func30, Try.ntmps30
      go_wp2_with (go_at_call 78; refine (l7Own_any A A' n' n' c c' ts xs _ hh.out hh'.out hn hn').mono ?_; rintro e w1 ⟨rfl, b1⟩; rw [hg])
      go_ret2
      exact ⟨ret_two hr.out.symm hok.out.symm, b1⟩
end Go.Proofs.Ytbggglddgpeobab
