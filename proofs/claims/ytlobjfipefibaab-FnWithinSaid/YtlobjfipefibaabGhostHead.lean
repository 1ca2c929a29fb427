/- What is proved here: what the program's isChosen, headBelow, HeadFrom and IsHeaviest return. No conditions but lengths. -/
import Derived.Test.YtlobjfipefibaabGhostImpl
import Derived.Deep.LoopGhost
namespace Go.Proofs.Ytlobjfipefibaab
open Go.RowKit

set_option maxRecDepth 100000 in
set_option maxHeartbeats 800000 in
theorem isChosen_any (A : Option Addr) (n c : Nat) (ts : List Blk) (A' : Option Addr) (c' : Nat) (ys : List Int) (b : Nat) (w : World) (h : BlksAt w w.heap.size A n ts) (h' : IntsAt w w.heap.size A' n ys) (hn : n ≤ 1000) (hb : b < n) :
    Calls Try.prog 144 #[.slice A n c, .slice A' n c', .int .i64 b] w (UpPost w (.bool (chos ts (getI ys) b))) := by
  have hl := Lib.hid h.1
  obtain ⟨tb, to, rfl, htb, hcs⟩ := h.at (by omega)
  have hh := Lib.hid h; have hh' := Lib.hid h'
  obtain ⟨pb, hpb⟩ : ∃ pb, (ts[b]?.getD (0, 0)).1 = pb := ⟨_, rfl⟩
  have hbc := Lib.hid (hcs b hb).1
  rw [hpb] at hbc
  have hpb' := Lib.hid (show parZ ts b = pb from hpb)
  have hcs' := Lib.hid hcs
  have hbI : (b : Int) < (n : Int) := by omega
  clear h h' hcs hpb
  go_enter Try.func144, Try.ntmps144
  go_wp2_with fail
  go_loopw [7, 8, 11] (fun _ _ i wr => ∃ k : Nat, k ≤ n ∧ i = .int .i64 k ∧ Hid (∀ x, x < k → parZ ts x = parZ ts b → pref (getI ys) x b = false) ∧ Hid (Below w.heap.size w wr)) (fun _ _ i _ => n - (intOf i).toNat)
  case atStart => exact ⟨0, Nat.zero_le _, rfl, Lib.hid (fun _ h => absurd h (Nat.not_lt_zero _)), Lib.hid (Below.refl _ _)⟩
  case round =>
    obtain ⟨k, hk, rfl, hall, hbel⟩ := hrel
    by_cases hlt : k < n
    · obtain ⟨p, hpp⟩ : ∃ p, (ts[k]?.getD (0, 0)).1 = p := ⟨_, rfl⟩
      obtain ⟨q, hqq⟩ : ∃ q, (ts[k]?.getD (0, 0)).2 = q := ⟨_, rfl⟩
      have d0 := (hbel.out.cell (p := ⟨tb, to + k * 2, none⟩) htb).trans (hcs'.out k hlt).1
      have d1 := (hbel.out.cell (p := ⟨tb, to + k * 2 + 1, none⟩) htb).trans (hcs'.out k hlt).2
      rw [hpp] at d0
      rw [hqq] at d1
      have hpz := Lib.hid (show parZ ts k = p from hpp)
      have hb2 := Lib.hid (hbel.out.alloc hbel.out.size (.cells #[.int .i64 p, .int .i64 q] 65))
      have dB := (hb2.out.cell (p := ⟨tb, to + b * 2, none⟩) htb).trans hbc.out
      have hI := Lib.hid (hh'.out.below hb2.out)
      have hkI : (k : Int) < (n : Int) := by omega
      clear hpp hqq
      by_cases hpe : p = pb
      · subst hpe
        have hcb : (p == p) = true := by simp
        cases hpr : pref (getI ys) k b
        · have hnext := Lib.hid (show ∀ x, x < k + 1 → parZ ts x = parZ ts b → pref (getI ys) x b = false from fun x hx hp => by
            by_cases e : x = k
            · rw [e]; exact hpr
            · exact hall.out x (by omega) hp)
          have hcall := Lib.hid (fun d => quiet_isPref (w := wr.alloc (.cells #[.int .i64 p, .int .i64 q] 65)) (d := d) A' n c' _ ys k b hI.out hlt hb)
          rw [hpr] at hcall
          clear hpr
          go_wp2_with fail
          go_quiet ((go_at_call 208; exact hcall.out _))
          go_wp2_with fail
          go_roundw
          case rel => exact ⟨k + 1, by omega, by go_num, hnext, Lib.hid (below_drewN hb2.out _)⟩
          case measure => simp [intOf]; omega
        · have hno := Lib.hid (chos_no (ts := ts) (S := getI ys) (b := b) (x := k) (by rw [hl.out]; exact hlt) (by rw [hpz.out, hpb'.out]) hpr)
          have hcall := Lib.hid (fun d => quiet_isPref (w := wr.alloc (.cells #[.int .i64 p, .int .i64 q] 65)) (d := d) A' n c' _ ys k b hI.out hlt hb)
          rw [hpr] at hcall
          clear hpr
          go_wp2_with fail
          go_quiet ((go_at_call 208; exact hcall.out _))
          go_wp2_with fail
          go_ret
          exact ⟨ret_bool hno.out.symm, below_drewN hb2.out _⟩
      · have hcb : (p == pb) = false := by simp [hpe]
        have hnext := Lib.hid (show ∀ x, x < k + 1 → parZ ts x = parZ ts b → pref (getI ys) x b = false from fun x hx hp => by
            by_cases e : x = k
            · rw [e, hpz.out, hpb'.out] at hp; exact absurd hp hpe
            · exact hall.out x (by omega) hp)
        clear hpe
        go_wp2_with fail
        go_quiet (fail)
        go_wp2_with fail
        go_roundw
        case rel => exact ⟨k + 1, by omega, by go_num, hnext, Lib.hid (below_drewN hb2.out _)⟩
        case measure => simp [intOf]; omega
    · have hkn : k = n := by omega
      have hyes := Lib.hid (show chos ts (getI ys) b = true from chos_iff.2 fun x hx hp => hall.out x (by rw [hkn, ← hl.out]; exact hx) hp)
      clear hkn
      go_wp2_with fail
      go_ret
      exact ⟨ret_bool hyes.out.symm, hbel.out⟩

set_option maxRecDepth 100000 in
set_option maxHeartbeats 800000 in
theorem headBelow_any (A : Option Addr) (n c : Nat) (ts : List Blk) (A' : Option Addr) (c' : Nat) (ys : List Int) (b : Nat) (w : World) (h : BlksAt w w.heap.size A n ts) (h' : IntsAt w w.heap.size A' n ys) (ht : Tree ts) (hb : b < n) :
    Calls Try.prog 130 #[.slice A n c, .slice A' n c', .int .i64 b] w (UpPost w (.int .i64 (headZ ts (getI ys) b : Nat))) := by
  have hl := Lib.hid h.1
  have hn : n ≤ 24 := by rw [← h.1]; exact ht.few
  obtain ⟨tb, to, rfl, htb, hcs⟩ := h.at (by omega)
  have hh := Lib.hid h; have hh' := Lib.hid h'
  have hcs' := Lib.hid hcs
  have ht' := Lib.hid ht
  clear h h' hcs ht
  go_enter Try.func130, Try.ntmps130
  go_wp2
  go_step3
  go_wp2
  go_step3
  go_wp2
  go_loopg [2, 7] n (fun g a _ wr => ∃ k : Nat, k < n ∧ n ≤ g + k ∧ a = .int .i64 k ∧ Hid (headZ ts (getI ys) b = headZ ts (getI ys) k) ∧ Hid (Below w.heap.size w wr))
  case atStart => exact ⟨b, hb, by omega, rfl, Lib.hid rfl, Lib.hid (Below.refl _ _)⟩
  case round =>
    obtain ⟨k, hk, hg, rfl, heq, hbel⟩ := hrel
    obtain ⟨g0, hg0⟩ : ∃ g0, gk = g0 := ⟨_, rfl⟩
    go_wp2_with fail
    go_loopg [2, 7] n (fun g a i wy => ∃ x : Nat, a = .int .i64 k ∧ k < x ∧ x ≤ n ∧ n ≤ g + x ∧ i = .int .i64 x ∧ Hid (∀ y, k < y → y < x → parZ ts y = k → chos ts (getI ys) y = false) ∧ Hid (Below w.heap.size w wy))
    case atStart => exact ⟨k + 1, rfl, by omega, by omega, by omega, by go_num, Lib.hid (fun y h1 h2 => absurd h2 (by omega)), hbel⟩
    case round =>
      obtain ⟨x, rfl, hkx, hxn, hgx, rfl, hall, hbel2⟩ := hrel
      by_cases hlt : x < n
      · obtain ⟨p, hpp⟩ : ∃ p, (ts[x]?.getD (0, 0)).1 = p := ⟨_, rfl⟩
        have d0 := (hbel2.out.cell (p := ⟨tb, to + x * 2, none⟩) htb).trans (hcs'.out x hlt).1
        rw [hpp] at d0
        have hpz := Lib.hid (show parZ ts x = p from hpp)
        have hxI : (x : Int) < (n : Int) := by omega
        clear hpp
        by_cases hpe : p = k
        · subst hpe
          have hcb : ((k : Int) == (k : Int)) = true := by simp
          cases hch : chos ts (getI ys) x
          · have hnext := Lib.hid (show ∀ y, k < y → y < x + 1 → parZ ts y = k → chos ts (getI ys) y = false from fun y h1 h2 h3 => by
              by_cases e : y = x
              · rw [e]; exact hch
              · exact hall.out y h1 (by omega) h3)
            go_wp2_with (go_at_call 144; refine (isChosen_any _ n c ts A' c' ys x _ (hh.out.up hbel2.out) (hh'.out.up' hbel2.out) (by omega) hlt).mono ?_; rintro e w2 ⟨rfl, b2⟩; rw [hch]; have u2 := Lib.hid (hbel2.out.trans (b2.mono hbel2.out.size)); clear b2)
            go_roundg (gk - 1)
            case measure => omega
            case rel => exact ⟨x + 1, rfl, by omega, by omega, by omega, by go_num, hnext, u2⟩
          · have hbest := Lib.hid (best_chos ht'.out (getI ys) (by rw [hl.out]; exact hlt) hpz.out hch)
            have hst := Lib.hid (heq.out.trans (headZ_step ht'.out (getI ys) (by rw [hl.out]; exact hk) hbest.out))
            go_wp2_with (go_at_call 144; refine (isChosen_any _ n c ts A' c' ys x _ (hh.out.up hbel2.out) (hh'.out.up' hbel2.out) (by omega) hlt).mono ?_; rintro e w2 ⟨rfl, b2⟩; rw [hch]; have u2 := Lib.hid (hbel2.out.trans (b2.mono hbel2.out.size)); clear b2)
            go_roundg (g0 - 1)
            case measure => omega
            case rel => exact ⟨x, hlt, by omega, rfl, hst, u2⟩
        · have hcb : (p == (k : Int)) = false := by simp [hpe]
          have hnext := Lib.hid (show ∀ y, k < y → y < x + 1 → parZ ts y = k → chos ts (getI ys) y = false from fun y h1 h2 h3 => by
              by_cases e : y = x
              · rw [e, hpz.out] at h3; exact absurd h3 hpe
              · exact hall.out y h1 (by omega) h3)
          clear hpe
          go_wp2_with fail
          go_roundg (gk - 1)
          case measure => omega
          case rel => exact ⟨x + 1, rfl, by omega, by omega, by omega, by go_num, hnext, hbel2⟩
      · have hxn' : x = n := by omega
        have hnone := Lib.hid (best_none ht'.out (getI ys) (p := k) fun y h1 h2 h3 => hall.out y h1 (by rw [hxn', ← hl.out]; exact h2) h3)
        have hst := Lib.hid (heq.out.trans (headZ_leaf (getI ys) (by rw [hl.out]; exact hk) hnone.out))
        clear hxn'
        go_wp2_with fail
        try rw [Exit.noGoto_ret]
        go_ret
        exact ⟨ret_int (by rw [hst.out]), hbel2.out⟩

set_option maxRecDepth 100000 in
set_option maxHeartbeats 800000 in
theorem implHeadF_any (A : Option Addr) (n c : Nat) (ts : List Blk) (A' : Option Addr) (n' c' : Nat) (xs : List Int) (a : Int) (w : World) (h : BlksAt w w.heap.size A n ts) (h' : IntsAt w w.heap.size A' n' xs) (hn : n ≤ 1048576) (hn' : n' ≤ 1048576) :
    Calls Try.prog 37 #[.slice A n c, .slice A' n' c', .int .i64 a] w (UpPost w (.tuple #[.int .i64 (headHR ts xs a), .bool (headOK ts xs a)])) := by
  have hl := Lib.hid h.1
  have hh := Lib.hid h; have hh' := Lib.hid h'; clear h h'
  have hS := Lib.hid (implSub_any A n c ts A' n' c' xs w hh.out hh'.out hn hn')
  cases hg : ownB ts xs
  · rw [hg] at hS
    have hok := Lib.hid (show headOK ts xs a = false by unfold headOK; rw [hg]; rfl)
    have hr := Lib.hid (show headHR ts xs a = 0 by unfold headHR; rw [hok.out]; rfl)
    go_enter Try.func37, Try.ntmps37
    go_wp2_with (go_at_call 39; refine hS.out.mono ?_; rintro e w1 ⟨A1, n1, c1, rfl, o1, b1⟩)
    go_ret2
    exact ⟨ret_two hr.out.symm hok.out.symm, b1⟩
  · rw [hg] at hS
    obtain ⟨ht, hlx, ha⟩ := ownB_iff.1 hg
    have hR := Lib.hid (show subR ts xs = sub ts xs by unfold subR; rw [hg]; rfl)
    have hsl := Lib.hid (show (sub ts xs).length = n by rw [sub_len, hlx, hl.out])
    have ht' := Lib.hid ht
    have hgt := Lib.hid (goodT_iff.2 ht)
    clear hlx ha ht
    cases hk : okK ts a
    · have hok := Lib.hid (show headOK ts xs a = false by
        have := hk
        unfold okK at this
        rw [hgt.out, Bool.true_and] at this
        unfold headOK; rw [this]; simp)
      have hr := Lib.hid (show headHR ts xs a = 0 by unfold headHR; rw [hok.out]; rfl)
      go_enter Try.func37, Try.ntmps37
      go_wp2_with (first
        | (go_at_call 39; refine hS.out.mono ?_; rintro e w1 ⟨A1, n1, c1, rfl, o1, b1⟩; have u1 := Lib.hid b1; clear b1 o1)
        | (go_at_call 125; refine (isBlock_ok _ n c ts a _ (hh.out.up u1.out) hn).mono ?_; rintro e w2 ⟨rfl, b2⟩; rw [hk]; have u2 := Lib.hid (u1.out.trans (b2.mono u1.out.size)); clear b2))
      go_ret2
      exact ⟨ret_two hr.out.symm hok.out.symm, u2.out⟩
    · obtain ⟨_, k, rfl, hkl⟩ := okK_iff.1 hk
      have hok := Lib.hid (show headOK ts xs (k : Int) = true from headOK_iff.2 ⟨ownB_iff.1 hg, k, rfl, hkl⟩)
      have hr := Lib.hid (show headHR ts xs (k : Int) = (headZ ts (getI (sub ts xs)) k : Nat) by unfold headHR; rw [hok.out, if_pos rfl, Int.toNat_natCast])
      have hkn : k < n := by rw [← hl.out]; exact hkl
      clear hkl
      go_enter Try.func37, Try.ntmps37
      go_wp2_with (first
        | (go_at_call 39; refine hS.out.mono ?_; rintro e w1 ⟨A1, n1, c1, rfl, o1, b1⟩; rw [hR.out] at o1; have hn1 : n1 = n := by rw [← o1.len]; exact hsl.out
           subst hn1
           have u1 := Lib.hid b1; have o1' := Lib.hid o1; clear b1 o1)
        | (go_at_call 125; refine (isBlock_ok _ _ c ts k _ (hh.out.up u1.out) hn).mono ?_; rintro e w2 ⟨rfl, b2⟩; rw [hk]; have u2 := Lib.hid (u1.out.trans (b2.mono u1.out.size)); have o2' := Lib.hid (o1'.out.below b2); clear b2 o1')
        | (go_at_call 130; refine (headBelow_any _ _ c ts A1 c1 (sub ts xs) k _ (hh.out.up u2.out) o2'.out.ints ht'.out hkn).mono ?_; rintro e w3 ⟨rfl, b3⟩; have u3 := Lib.hid (u2.out.trans (b3.mono u2.out.size)); clear b3))
      go_ret2
      exact ⟨ret_two hr.out.symm hok.out.symm, u3.out⟩

theorem ret_bb {a b c d : Bool} (h1 : a = b) (h2 : c = d) : Ending.returned (.tuple #[.bool a, .bool c]) = Ending.returned (.tuple #[.bool b, .bool d]) := by rw [h1, h2]
set_option maxRecDepth 100000 in
set_option maxHeartbeats 800000 in
theorem implHeav_any (A : Option Addr) (n c : Nat) (ts : List Blk) (A' : Option Addr) (n' c' : Nat) (xs : List Int) (a : Int) (w : World) (h : BlksAt w w.heap.size A n ts) (h' : IntsAt w w.heap.size A' n' xs) (hn : n ≤ 1048576) (hn' : n' ≤ 1048576) :
    Calls Try.prog 44 #[.slice A n c, .slice A' n' c', .int .i64 a] w (UpPost w (.tuple #[.bool (heavR ts xs a), .bool (childOK ts xs a)])) := by
  have hl := Lib.hid h.1
  have hh := Lib.hid h; have hh' := Lib.hid h'; clear h h'
  have hS := Lib.hid (implSub_any A n c ts A' n' c' xs w hh.out hh'.out hn hn')
  cases hg : ownB ts xs
  · rw [hg] at hS
    have hok := Lib.hid (show childOK ts xs a = false by unfold childOK; rw [hg]; rfl)
    have hr := Lib.hid (show heavR ts xs a = false by unfold heavR; rw [hok.out]; rfl)
    go_enter Try.func44, Try.ntmps44
    go_wp2_with (go_at_call 39; refine hS.out.mono ?_; rintro e w1 ⟨A1, n1, c1, rfl, o1, b1⟩)
    go_ret2
    exact ⟨ret_bb hr.out.symm hok.out.symm, b1⟩
  · rw [hg] at hS
    obtain ⟨ht, hlx, ha⟩ := ownB_iff.1 hg
    have hR := Lib.hid (show subR ts xs = sub ts xs by unfold subR; rw [hg]; rfl)
    have hsl := Lib.hid (show (sub ts xs).length = n by rw [sub_len, hlx, hl.out])
    have hfew : n ≤ 24 := by rw [← hl.out]; exact ht.few
    have hce := Lib.hid (show (goodT ts && inB a 1 (ts.length - 1)) = childOK ts xs a by unfold childOK; rw [hg, goodT_iff.2 ht])
    clear hlx ha ht
    cases hk : childOK ts xs a
    · have hr := Lib.hid (show heavR ts xs a = false by unfold heavR; rw [hk]; rfl)
      go_enter Try.func44, Try.ntmps44
      go_wp2_with (first
        | (go_at_call 39; refine hS.out.mono ?_; rintro e w1 ⟨A1, n1, c1, rfl, o1, b1⟩; have u1 := Lib.hid b1; clear b1 o1)
        | (go_at_call 143; refine (isChild_any _ n c ts a _ (hh.out.up u1.out) hn).mono ?_; rintro e w2 ⟨rfl, b2⟩; rw [hce.out, hk]; have u2 := Lib.hid (u1.out.trans (b2.mono u1.out.size)); clear b2))
      go_ret2
      exact ⟨ret_bb hr.out.symm rfl, u2.out⟩
    · obtain ⟨_, k, rfl, hkl, _⟩ := childOK_iff.1 hk
      have hr := Lib.hid (show heavR ts xs (k : Int) = chos ts (getI (sub ts xs)) k by unfold heavR; rw [hk, Bool.true_and, Int.toNat_natCast])
      have hkn : k < n := by rw [← hl.out]; exact hkl
      clear hkl
      go_enter Try.func44, Try.ntmps44
      go_wp2_with (first
        | (go_at_call 39; refine hS.out.mono ?_; rintro e w1 ⟨A1, n1, c1, rfl, o1, b1⟩; rw [hR.out] at o1; have hn1 : n1 = n := by rw [← o1.len]; exact hsl.out
           subst hn1
           have u1 := Lib.hid b1; have o1' := Lib.hid o1; clear b1 o1)
        | (go_at_call 143; refine (isChild_any _ _ c ts k _ (hh.out.up u1.out) hn).mono ?_; rintro e w2 ⟨rfl, b2⟩; rw [hce.out, hk]; have u2 := Lib.hid (u1.out.trans (b2.mono u1.out.size)); have o2' := Lib.hid (o1'.out.below b2); clear b2 o1')
        | (go_at_call 144; refine (isChosen_any _ _ c ts A1 c1 (sub ts xs) k _ (hh.out.up u2.out) o2'.out.ints (by omega) hkn).mono ?_; rintro e w3 ⟨rfl, b3⟩; have u3 := Lib.hid (u2.out.trans (b3.mono u2.out.size)); clear b3))
      go_ret2
      exact ⟨ret_bb hr.out.symm rfl, u3.out⟩
end Go.Proofs.Ytlobjfipefibaab
