/- What is proved here: what the model's l7Own, l7Sub, l7Child, l7Head, SubWeights, HeadFrom and IsHeaviest return. No conditions but lengths. -/
import Derived.Test.YtlobjfipefibaabGhostHead
import Derived.Test.YtlobjfipefibaabSpecOrder
namespace Go.Proofs.Ytlobjfipefibaab
open Go.RowKit

theorem l7Own_any (A A' : Option Addr) (n n' c c' : Nat) (ts : List Blk) (xs : List Int) (w : World) (h : BlksAt w w.heap.size A n ts) (h' : IntsAt w w.heap.size A' n' xs) (hn : n ≤ 1048576) (hn' : n' ≤ 1048576) :
    Calls Try.prog 131 #[.slice A n c, .slice A' n' c'] w (UpPost w (.bool (ownB ts xs))) := by
  have hl := Lib.hid h.1; have hl' := Lib.hid h'.1
  have hh := Lib.hid h; have hh' := Lib.hid h'; clear h h'
  cases hg : goodT ts
  · have hr := Lib.hid (show ownB ts xs = false by unfold ownB; rw [hg]; rfl)
    go_enter Try.func131, Try.ntmps131
    go_wp2_with (go_at_call 202; refine (specGoodT_any _ _ _ ts _ hh.out hn).mono ?_; rintro e w1 ⟨rfl, b1⟩; rw [hg])
    go_ret
    exact ⟨ret_bool hr.out.symm, b1⟩
  · by_cases he : n' = n
    · subst he
      have hr := Lib.hid (show ownB ts xs = allB xs 0 100000 by unfold ownB; rw [hg, decide_eq_true (by rw [hl.out, hl'.out])]; rfl)
      have hq : ((n' : Int) == (n' : Int)) = true := by simp
      cases ha : allB xs 0 100000
      all_goals
        go_enter Try.func131, Try.ntmps131
        go_wp2_with (first
          | (go_at_call 202; refine (specGoodT_any _ _ _ ts _ hh.out hn).mono ?_; rintro e w1 ⟨rfl, b1⟩; rw [hg]; have b1' := Lib.hid b1; clear b1)
          | (go_at_call 203; refine (l1All_any A' n' c' _ xs _ _ _ (hh'.out.up' b1'.out) hn').mono ?_; rintro e w2 ⟨rfl, rfl⟩; rw [ha]))
        go_ret
        exact ⟨ret_bool (hr.out.trans ha).symm, b1'.out⟩
    · have hr := Lib.hid (show ownB ts xs = false by unfold ownB; rw [decide_eq_false (by rw [hl.out, hl'.out]; exact he)]; simp)
      have hq : ((n' : Int) == (n : Int)) = false := by simp; omega
      go_enter Try.func131, Try.ntmps131
      go_wp2_with (go_at_call 202; refine (specGoodT_any _ _ _ ts _ hh.out hn).mono ?_; rintro e w1 ⟨rfl, b1⟩; rw [hg])
      go_ret
      exact ⟨ret_bool hr.out.symm, b1⟩

/-- The model's copy of a list, ahead of a loop that writes it. -/
theorem own_snoc0 {w1 : World} {B g n c' : Nat} {l : List Int} (hl : l.length = n) (h1 : w1.ownsRow B 3 1 (.slice (some ⟨g, 0, none⟩) n c') l.length (l.map (Value.int .i64))) : OwnAt w1 B (some ⟨g, 0, none⟩) n l := by
  subst hl
  obtain ⟨A1, c1, e1, o1⟩ := OwnAt.of_owns h1
  have hA1 : A1 = some ⟨g, 0, none⟩ := by injection e1 with e1 _ _; exact e1.symm
  rw [hA1] at o1
  exact o1
theorem bestL_in (S : Nat → Int) (n : Nat) : ∀ (l : List Nat) (m : Int), (m = -1 ∨ ∃ y : Nat, m = y ∧ y < n) → (∀ i, i ∈ l → i < n) →
    (l.foldl (fun m k => if m < 0 ∨ S m.toNat ≤ S k then (k : Int) else m) m = -1 ∨ ∃ y : Nat, l.foldl (fun m k => if m < 0 ∨ S m.toNat ≤ S k then (k : Int) else m) m = y ∧ y < n) := by
  intro l
  induction l with
  | nil => intro m hm _; exact hm
  | cons x l ih =>
    intro m hm hl
    simp only [List.foldl_cons]
    refine ih _ ?_ (fun i hi => hl i (List.mem_cons_of_mem _ hi))
    split
    · exact .inr ⟨x, rfl, hl x (List.mem_cons_self ..)⟩
    · exact hm

set_option maxRecDepth 100000 in
set_option maxHeartbeats 800000 in
theorem l7Sub_any (A : Option Addr) (n c : Nat) (ts : List Blk) (A' : Option Addr) (c' : Nat) (xs : List Int) (w : World) (h : BlksAt w w.heap.size A n ts) (h' : IntsAt w w.heap.size A' n xs) (ht0 : Tree ts) :
    Calls Try.prog 135 #[.slice A n c, .slice A' n c'] w (RetSl w (sub ts xs)) := by
  obtain ⟨i0, hi, hz0, hz1, hz2⟩ := info_parts info3
  have hl := Lib.hid h.1; have hl' := Lib.hid h'.1
  have hh := Lib.hid h; have hh' := Lib.hid h'; clear h h'
  have ht := Lib.hid ht0
  have hpos : 0 < n := by rw [← hl.out]; exact ht0.pos
  have hfew : n ≤ 24 := by rw [← hl.out]; exact ht0.few
  obtain ⟨ab, ao, rfl, hab, hca⟩ := hh'.out.2 0 hpos
  obtain ⟨tb, to, rfl, _, _⟩ := hh.out.2 0 hpos
  have hca' := Lib.hid (show ∀ j, j < n → w.cell? ⟨ab, ao + j, none⟩ = some (.int .i64 (xs[j]?.getD 0)) from fun j hj => by
    obtain ⟨b', o', e, _, hc⟩ := hh'.out.2 j hj
    cases e; exact hc)
  have hsub0 := Lib.hid (show subs ts xs (n - 1 - (n - 1)) = xs by rw [Nat.sub_self]; rfl)
  have hsubn := Lib.hid (show subs ts xs (n - 1 - 0) = sub ts xs by unfold sub; rw [hl.out]; rfl)
  have h0 := Lib.hid (World.ownsRow_made (base := w.heap.size) (e := 3) (size := 1) w #[] 0 (Nat.le_refl _) (by decide) rfl)
  have hnI : (n : Int) - 1 = ((n - 1 : Nat) : Int) := by omega
  clear ht0 hca
  go_enter Try.func135, Try.ntmps135
  go_wp2_with (at_builtin; refine appendAll _ rfl _ _ 24 rfl w.heap.size i0 Try.underlying24 hi hz0 hz1 hz2 _ [] rfl ?k1 ab ao n c' xs hl'.out hpos rfl ?k2 ?k3 ?k4 ?k5)
  case k1 => exact h0.out
  case k2 => intro j hj; exact (((Below.refl w.heap.size w).alloc (Nat.le_refl _) _).cell (p := ⟨ab, ao + j, none⟩) (by show ab < w.heap.size; exact hab)).trans (hca'.out j hj)
  case k3 => simp; omega
  case k4 => simp
  case k5 =>
    intro g cg w1 h1 h2 h3
    have b1 : Below w.heap.size w w1 := ((Below.refl w.heap.size w).alloc (Nat.le_refl _) _).grown h2 (by simp) (fun k e => by cases e; exact Nat.le_refl _)
    have o1 := own_snoc0 hl'.out h1
    have o1' := Lib.hid o1; have b1' := Lib.hid b1
    have lo := Lib.hid (show w.heap.size ≤ g from (o1.low _ rfl).1)
    clear h1 h2 h3 b1 o1 h0
    go_wp2_with fail
    go_loopw [6] (fun i wr => ∃ k : Nat, k < n ∧ i = .int .i64 k ∧ Hid (OwnAt wr w.heap.size (some ⟨g, 0, none⟩) n (subs ts xs (n - 1 - k))) ∧ Hid (Below w.heap.size w wr)) (fun i _ => (intOf i).toNat)
    case atStart => exact ⟨n - 1, by omega, by first | rfl | (rw [hnI]) | (congr 1), Lib.hid (by rw [hsub0.out]; exact o1'.out), b1'⟩
    case round =>
      obtain ⟨k, hk, rfl, ho, hbel⟩ := hrel
      by_cases h0 : k = 0
      · subst h0
        have o9 := Lib.hid (show OwnAt wr w.heap.size (some ⟨g, 0, none⟩) n (sub ts xs) by rw [← hsubn.out]; exact ho.out)
        go_wp2_with fail
        go_ret
        exact ⟨_, n, cg, by first | rfl | simp, o9.out, hbel.out⟩
      · have hp := ht.out.up (k := k) (by rw [hl.out]; exact hk) h0
        obtain ⟨p, hpe⟩ : ∃ p, parN ts k = p := ⟨_, rfl⟩
        obtain ⟨tb', to', e, htb, hc0, _⟩ := hh.out.2 k hk
        cases e
        have hc := (hbel.out.cell (p := ⟨tb, to + k * 2, none⟩) htb).trans hc0
        rw [show (ts[k]?.getD (0, 0)).1 = (p : Int) from by rw [← hpe]; exact hp.1] at hc
        have hpk : p < k := by rw [← hpe]; exact hp.2
        have hst := Lib.hid (subs_next ts xs hl.out hk h0)
        rw [hpe] at hst
        obtain ⟨g', m, f, e, hm, hrow, hf⟩ := ho.out.own hpos
        cases e
        have d1 := hrow.cell (i := p) (by omega)
        have d2 := hrow.cell (i := k) (by omega)
        have fz := hrow.frozen p
        rw [hf p (by omega)] at d1
        rw [hf k hk] at d2
        obtain ⟨x, hx⟩ : ∃ x, (subs ts xs (n - 1 - k))[p]?.getD 0 = x := ⟨_, rfl⟩
        obtain ⟨y, hy⟩ : ∃ y, (subs ts xs (n - 1 - k))[k]?.getD 0 = y := ⟨_, rfl⟩
        rw [hx] at d1
        rw [hy] at d2
        have o9 := Lib.hid (show OwnAt (wr.setCell ⟨g, p, none⟩ (.int .i64 (wrap64 (x + y)))) w.heap.size (some ⟨g, 0, none⟩) n (subs ts xs (n - 1 - (k - 1))) by
          rw [hst.out]
          unfold addI getI
          rw [hx, hy]
          exact ho.out.setAt' (by omega) _)
        have b9 := Lib.hid (hbel.out.setCell (p := ⟨g, p, none⟩) lo.out (.int .i64 (wrap64 (x + y))))
        have hkI : (k : Int) < (n : Int) := by omega
        have hpI : (p : Int) < (n : Int) := by omega
        have hpn : p < n := by omega
        have hk0 : 0 < k := by omega
        clear hp hpe hc0 hrow hf hx hy ho hbel hst h0
        go_wp2_with fail
        go_still_tail 14, (by kernel_rfl)
        change wpList _ _ _ _ _ wr.drew
        go_wp2_with fail
        go_roundw
        case rel => exact ⟨k - 1, by omega, by go_num, ⟨o9.out.1, o9.out.2, o9.out.3⟩, ⟨b9.out.1, b9.out.2, b9.out.3, b9.out.4, b9.out.5⟩⟩
        case measure => simp [intOf]; omega

set_option maxRecDepth 100000 in
theorem specSub_any (A : Option Addr) (n c : Nat) (ts : List Blk) (A' : Option Addr) (n' c' : Nat) (xs : List Int) (w : World) (h : BlksAt w w.heap.size A n ts) (h' : IntsAt w w.heap.size A' n' xs) (hn : n ≤ 1048576) (hn' : n' ≤ 1048576) :
    Calls Try.prog 40 #[.slice A n c, .slice A' n' c'] w (RetOwn w (ownB ts xs) (subR ts xs)) := by
  have hl := Lib.hid h.1; have hl' := Lib.hid h'.1
  have hh := Lib.hid h; have hh' := Lib.hid h'; clear h h'
  cases hg : ownB ts xs
  · have hR := Lib.hid (show subR ts xs = [] by unfold subR; rw [hg]; rfl)
    go_enter Try.func40, Try.ntmps40
    go_wp2_with (go_at_call 131; refine (l7Own_any A A' n n' c c' ts xs _ hh.out hh'.out hn hn').mono ?_; rintro e w1 ⟨rfl, b1⟩; rw [hg])
    go_ret2
    exact ⟨none, 0, 0, rfl, by rw [hR.out]; exact own_nil _ _, b1⟩
  · have hR := Lib.hid (show subR ts xs = sub ts xs by unfold subR; rw [hg]; rfl)
    obtain ⟨ht0, hlx, ha⟩ := ownB_iff.1 hg
    have ht := Lib.hid ht0
    have hn0 : n' = n := by rw [← hl'.out, ← hl.out]; exact hlx
    subst hn0
    clear hlx ha ht0
    go_enter Try.func40, Try.ntmps40
    go_wp2_with (go_at_call 131; refine (l7Own_any A A' n' n' c c' ts xs _ hh.out hh'.out hn hn').mono ?_; rintro e w1 ⟨rfl, b1⟩; rw [hg]; have u1 := Lib.hid b1; clear b1)
    refine (l7Sub_any A n' c ts A' c' xs _ (hh.out.up u1.out) (hh'.out.up' u1.out) ht.out).mono ?_
    rintro e w2 ⟨A2, n2, c2, rfl, o2, b2⟩
    have u2 := Lib.hid (u1.out.trans (b2.mono u1.out.size)); have o2' := Lib.hid (o2.fewer u1.out.size)
    clear b2 o2
    go_wp2_with fail
    go_ret2
    exact ⟨A2, n2, c2, rfl, by rw [hR.out]; exact o2'.out, u2.out⟩

set_option maxRecDepth 100000 in
set_option maxHeartbeats 800000 in
theorem l7Child_any (A : Option Addr) (n c : Nat) (ts : List Blk) (A' : Option Addr) (c' : Nat) (ys : List Int) (b : Nat) (w : World) (h : BlksAt w w.heap.size A n ts) (h' : IntsAt w w.heap.size A' n ys) (ht0 : Tree ts) :
    Calls Try.prog 145 #[.slice A n c, .slice A' n c', .int .i64 b] w (UpPost w (.int .i64 (bestL (getI ys) (kids ts b)))) := by
  have hl := Lib.hid h.1; have hl' := Lib.hid h'.1
  have hh := Lib.hid h; have hh' := Lib.hid h'; clear h h'
  have ht := Lib.hid ht0
  have hpos : 0 < n := by rw [← hl.out]; exact ht0.pos
  have hfew : n ≤ 24 := by rw [← hl.out]; exact ht0.few
  obtain ⟨ab, ao, rfl, hab, _⟩ := hh'.out.2 0 hpos
  have hys := Lib.hid (show ∀ j, j < n → w.cell? ⟨ab, ao + j, none⟩ = some (.int .i64 (getI ys j)) from fun j hj => by
    obtain ⟨b', o', e, _, hc⟩ := hh'.out.2 j hj
    cases e; exact hc)
  have hkn := Lib.hid (show kidsL ts b n = kids ts b by unfold kids; rw [hl.out])
  clear ht0
  go_enter Try.func145, Try.ntmps145
  go_wp2_with fail
  refine (l4Children_any A n c ts b _ hh.out (by omega) ht.out).mono ?_
  rintro e w1 ⟨A1, n1, c1, rfl, o1, b1⟩
  rw [hkn.out] at o1
  have hln : Hid ((kids ts b).length = n1) := Lib.hid (by have := o1.len; unfold kidsZ at this; simpa using this)
  have hn1 : n1 ≤ 24 := by
    have h1 := List.length_filter_le (fun i => parZ ts i == (b : Int)) (List.range n)
    have h2 : (kidsL ts b n).length = n1 := by rw [hkn.out]; exact hln.out
    unfold kidsL at h2
    simp at h1
    omega
  have i1 := Lib.hid o1.ints
  have u1 := Lib.hid b1
  clear o1 b1
  go_wp2_with fail
  go_loopw [7, 9, 14] (fun m _ i wr => ∃ k : Nat, k ≤ n1 ∧ i = .int .i64 k ∧ m = .int .i64 (bestL (getI ys) ((kids ts b).take k)) ∧ Hid (Below w1.heap.size w1 wr)) (fun _ _ i _ => n1 - (intOf i).toNat)
  case atStart => exact ⟨0, Nat.zero_le _, rfl, rfl, Lib.hid (Below.refl _ _)⟩
  case round =>
    obtain ⟨k, hk, rfl, rfl, hbel⟩ := hrel
    by_cases hlt : k < n1
    · obtain ⟨kb, ko, rfl, hkb, hkc⟩ := i1.out.2 k hlt
      have hkl : k < (kids ts b).length := by rw [hln.out]; exact hlt
      rw [kidsZ_at hkl] at hkc
      have hkc' := (hbel.out.cell (p := ⟨kb, ko + k, none⟩) hkb).trans hkc
      obtain ⟨x, hx⟩ : ∃ x, (kids ts b)[k]?.getD 0 = x := ⟨_, rfl⟩
      rw [hx] at hkc'
      have hx' : (kids ts b)[k] = x := by rw [List.getElem?_eq_getElem hkl] at hx; exact hx
      have hxm : x ∈ kids ts b := by rw [← hx']; exact List.getElem_mem hkl
      have hxn : x < n := by rw [← hl.out]; exact (kids_mem.1 hxm).1
      have hst := Lib.hid (show bestL (getI ys) ((kids ts b).take (k + 1)) = if bestL (getI ys) ((kids ts b).take k) < 0 ∨ getI ys (bestL (getI ys) ((kids ts b).take k)).toNat ≤ getI ys x then (x : Int) else bestL (getI ys) ((kids ts b).take k) by
        rw [List.take_succ_eq_append_getElem hkl, hx', bestL_snoc])
      have hm : ∀ z, bestL (getI ys) ((kids ts b).take k) = z → (z = -1 ∨ ∃ y : Nat, z = y ∧ y < n) := fun z hz => by
        have := bestL_in (getI ys) n ((kids ts b).take k) (-1) (.inl rfl)
        rw [← hz]
        exact this (fun i hi => by rw [← hl.out]; exact (kids_mem.1 (List.mem_of_mem_take hi)).1)
      generalize hM : bestL (getI ys) ((kids ts b).take k) = M at hm hst ⊢
      have dx := ((u1.out.trans (hbel.out.mono u1.out.size)).cell (p := ⟨ab, ao + x, none⟩) hab).trans (hys.out x hxn)
      have hkI : (k : Int) < (n1 : Int) := by omega
      have hxI : (x : Int) < (n : Int) := by omega
      clear hkc hx hx' hxm hkl hM
      rcases hm M rfl with rfl | ⟨y, rfl, hy⟩
      · have hst2 := Lib.hid (hst.out.trans (if_pos (.inl (by decide))))
        clear hm hst
        go_wp2_with fail
        go_quiet (fail)
        go_wp2_with fail
        go_roundw
        case rel => exact ⟨k + 1, by omega, by go_num, by rw [hst2.out], Lib.hid (below_drewN hbel.out _)⟩
        case measure => simp [intOf]; omega
      · have dy := ((u1.out.trans (hbel.out.mono u1.out.size)).cell (p := ⟨ab, ao + y, none⟩) hab).trans (hys.out y hy)
        rw [Int.toNat_natCast] at hst
        have hyI : (y : Int) < (n : Int) := by omega
        have hd1 : decide ((y : Int) < 0) = false := decide_eq_false (by omega)
        by_cases hc : getI ys y ≤ getI ys x
        · have hst2 := Lib.hid (hst.out.trans (if_pos (.inr hc)))
          have hd2 : decide (getI ys y ≤ getI ys x) = true := decide_eq_true hc
          clear hm hst hc
          go_wp2_with fail
          go_quiet (fail)
          go_wp2_with fail
          go_roundw
          case rel => exact ⟨k + 1, by omega, by go_num, by rw [hst2.out], Lib.hid (below_drewN hbel.out _)⟩
          case measure => simp [intOf]; omega
        · have hst2 := Lib.hid (hst.out.trans (if_neg (by omega)))
          have hd2 : decide (getI ys y ≤ getI ys x) = false := decide_eq_false hc
          clear hm hst hc
          go_wp2_with fail
          go_quiet (fail)
          go_wp2_with fail
          go_roundw
          case rel => exact ⟨k + 1, by omega, by go_num, by rw [hst2.out], Lib.hid (below_drewN hbel.out _)⟩
          case measure => simp [intOf]; omega
    · have hkn2 := Lib.hid (show (kids ts b).take k = kids ts b from List.take_of_length_le (by rw [hln.out]; omega))
      have u9 := Lib.hid (u1.out.trans (hbel.out.mono u1.out.size))
      go_wp2_with fail
      go_ret
      exact ⟨ret_int (by rw [hkn2.out]), u9.out⟩
end Go.Proofs.Ytlobjfipefibaab

/- What is proved here: what the model's l7Head, HeadFrom and IsHeaviest return. No conditions but lengths. -/
namespace Go.Proofs.Ytlobjfipefibaab
open Go.RowKit

set_option maxRecDepth 100000 in
set_option maxHeartbeats 800000 in
theorem l7Head_any (A : Option Addr) (n c : Nat) (ts : List Blk) (A' : Option Addr) (c' : Nat) (xs : List Int) (b : Nat) (w : World) (h : BlksAt w w.heap.size A n ts) (h' : IntsAt w w.heap.size A' n xs) (ht0 : Tree ts) (hb : b < n) :
    Calls Try.prog 132 #[.slice A n c, .slice A' n c', .int .i64 b] w (UpPost w (.int .i64 (headZ ts (getI (sub ts xs)) b : Nat))) := by
  have hl := Lib.hid h.1; have hl' := Lib.hid h'.1
  have hh := Lib.hid h; have hh' := Lib.hid h'; clear h h'
  have ht := Lib.hid ht0
  have hfew : n ≤ 24 := by rw [← hl.out]; exact ht0.few
  have hsl := Lib.hid (show (sub ts xs).length = n by rw [sub_len, hl'.out])
  clear ht0
  go_enter Try.func132, Try.ntmps132
  go_wp2_with fail
  refine (l7Sub_any A n c ts A' c' xs _ hh.out hh'.out ht.out).mono ?_
  rintro e w1 ⟨A1, n1, c1, rfl, o1, b1⟩
  have hn1 : n1 = n := by rw [← o1.len]; exact hsl.out
  subst hn1
  have i1 := Lib.hid o1.ints
  have u1 := Lib.hid b1
  clear o1 b1
  go_wp2_with fail
  refine (l7Child_any A n1 c ts A1 c1 (sub ts xs) b _ (hh.out.up u1.out) i1.out ht.out).mono ?_
  rintro e w2 ⟨rfl, b2⟩
  have u2 := Lib.hid (u1.out.trans (b2.mono u1.out.size))
  have i2 := Lib.hid (i1.out.up' b2)
  clear b2 i1
  go_wp2_with fail
  go_loopg [2, 8] n1 (fun g a k wr => ∃ x : Nat, x < n1 ∧ n1 ≤ g + x ∧ a = .int .i64 x ∧ k = .int .i64 (bestL (getI (sub ts xs)) (kids ts x)) ∧ Hid (headZ ts (getI (sub ts xs)) b = headZ ts (getI (sub ts xs)) x) ∧ Hid (Below w2.heap.size w2 wr))
  case atStart => exact ⟨b, hb, by omega, rfl, rfl, Lib.hid rfl, Lib.hid (Below.refl _ _)⟩
  case round =>
    obtain ⟨x, hx, hg, rfl, rfl, heq, hbel⟩ := hrel
    have hcs := best_kids ts (getI (sub ts xs)) x ts.length
    rcases hcs with ⟨_, e0⟩ | ⟨m, e1, e2, _⟩
    · have e0' : bestL (getI (sub ts xs)) (kids ts x) = -1 := e0
      have hst := Lib.hid (heq.out.trans (headZ_leaf (getI (sub ts xs)) (by rw [hl.out]; exact hx) e0'))
      have u9 := Lib.hid (u2.out.trans (hbel.out.mono u2.out.size))
      rw [e0']
      clear e0 e0'
      go_wp2_with fail
      go_ret
      exact ⟨ret_int (by rw [hst.out]), u9.out⟩
    · have e1' : bestL (getI (sub ts xs)) (kids ts x) = (m : Int) := e1
      have hst := Lib.hid (heq.out.trans (headZ_step ht.out (getI (sub ts xs)) (by rw [hl.out]; exact hx) e1'))
      have hma := kids_above ht.out e2
      have hmn : m < n1 := by rw [← hl.out]; exact hma.2.1
      have hxm : x < m := hma.1
      rw [e1']
      have u9 := Lib.hid (u2.out.trans (hbel.out.mono u2.out.size))
      have i9 := Lib.hid (i2.out.up' hbel.out)
      clear e1 e1' e2 hma
      go_wp2_with (go_at_call 145; refine (l7Child_any A n1 c ts A1 c1 (sub ts xs) m _ (hh.out.up u9.out) i9.out ht.out).mono ?_; rintro e w3 ⟨rfl, b3⟩; have b4 := Lib.hid (hbel.out.trans (b3.mono hbel.out.size)); clear b3)
      go_roundg (gk - 1)
      case measure => omega
      case rel => exact ⟨m, hmn, by omega, rfl, rfl, hst, b4⟩

set_option maxRecDepth 100000 in
set_option maxHeartbeats 800000 in
theorem specHeadF_any (A : Option Addr) (n c : Nat) (ts : List Blk) (A' : Option Addr) (n' c' : Nat) (xs : List Int) (a : Int) (w : World) (h : BlksAt w w.heap.size A n ts) (h' : IntsAt w w.heap.size A' n' xs) (hn : n ≤ 1048576) (hn' : n' ≤ 1048576) :
    Calls Try.prog 38 #[.slice A n c, .slice A' n' c', .int .i64 a] w (UpPost w (.tuple #[.int .i64 (headHR ts xs a), .bool (headOK ts xs a)])) := by
  have hl := Lib.hid h.1; have hl' := Lib.hid h'.1
  have hh := Lib.hid h; have hh' := Lib.hid h'; clear h h'
  cases hg : ownB ts xs
  · have hok := Lib.hid (show headOK ts xs a = false by unfold headOK; rw [hg]; rfl)
    have hr := Lib.hid (show headHR ts xs a = 0 by unfold headHR; rw [hok.out]; rfl)
    go_enter Try.func38, Try.ntmps38
    go_wp2_with (go_at_call 131; refine (l7Own_any A A' n n' c c' ts xs _ hh.out hh'.out hn hn').mono ?_; rintro e w1 ⟨rfl, b1⟩; rw [hg])
    go_ret2
    exact ⟨ret_two hr.out.symm hok.out.symm, b1⟩
  · obtain ⟨ht0, hlx, ha⟩ := ownB_iff.1 hg
    have ht := Lib.hid ht0
    have hn0 : n' = n := by rw [← hl'.out, ← hl.out]; exact hlx
    subst hn0
    clear hlx ha ht0
    by_cases h0 : 0 ≤ a
    · obtain ⟨k, rfl⟩ := Int.eq_ofNat_of_zero_le h0
      by_cases h1 : k < n'
      · have hok := Lib.hid (show headOK ts xs (k : Int) = true from headOK_iff.2 ⟨ownB_iff.1 hg, k, rfl, by rw [hl.out]; exact h1⟩)
        have hr := Lib.hid (show headHR ts xs (k : Int) = (headZ ts (getI (sub ts xs)) k : Nat) by unfold headHR; rw [hok.out, if_pos rfl, Int.toNat_natCast])
        have h1I : ¬ (n' : Int) ≤ (k : Int) := by omega
        clear h0
        go_enter Try.func38, Try.ntmps38
        go_wp2_with (first
          | (go_at_call 131; refine (l7Own_any A A' n' n' c c' ts xs _ hh.out hh'.out hn hn').mono ?_; rintro e w1 ⟨rfl, b1⟩; rw [hg]; have u1 := Lib.hid b1; clear b1)
          | (go_at_call 132; refine (l7Head_any A n' c ts A' c' xs k _ (hh.out.up u1.out) (hh'.out.up' u1.out) ht.out h1).mono ?_; rintro e w2 ⟨rfl, b2⟩; have u2 := Lib.hid (u1.out.trans (b2.mono u1.out.size)); clear b2))
        go_ret2
        exact ⟨ret_two hr.out.symm hok.out.symm, u2.out⟩
      · have hok := Lib.hid (show headOK ts xs (k : Int) = false by unfold headOK; rw [inB_high (by rw [hl.out]; omega)]; simp)
        have hr := Lib.hid (show headHR ts xs (k : Int) = 0 by unfold headHR; rw [hok.out]; rfl)
        have h1I : (n' : Int) ≤ (k : Int) := by omega
        clear h0
        go_enter Try.func38, Try.ntmps38
        go_wp2_with (go_at_call 131; refine (l7Own_any A A' n' n' c c' ts xs _ hh.out hh'.out hn hn').mono ?_; rintro e w1 ⟨rfl, b1⟩; rw [hg])
        go_ret2
        exact ⟨ret_two hr.out.symm hok.out.symm, b1⟩
    · have hok := Lib.hid (show headOK ts xs a = false by unfold headOK; rw [inB_low (by omega)]; simp)
      have hr := Lib.hid (show headHR ts xs a = 0 by unfold headHR; rw [hok.out]; rfl)
      have h0' : a < 0 := by omega
      go_enter Try.func38, Try.ntmps38
      go_wp2_with (go_at_call 131; refine (l7Own_any A A' n' n' c c' ts xs _ hh.out hh'.out hn hn').mono ?_; rintro e w1 ⟨rfl, b1⟩; rw [hg])
      go_ret2
      exact ⟨ret_two hr.out.symm hok.out.symm, b1⟩

theorem child_no_low {ts : List Blk} {xs : List Int} {a : Int} (h : a < 1) : childOK ts xs a = false := by unfold childOK; rw [inB_low h]; simp
theorem child_no_high {ts : List Blk} {xs : List Int} {a : Int} (h : (ts.length : Int) ≤ a) : childOK ts xs a = false := by unfold childOK; rw [inB_high (by omega)]; simp
theorem beq_nat (x y : Nat) : ((x : Int) == (y : Int)) = decide ((x : Int) = (y : Int)) := by
  by_cases h : (x : Int) = y <;> simp [h]

set_option maxRecDepth 100000 in
set_option maxHeartbeats 1600000 in
theorem specHeav_any (A : Option Addr) (n c : Nat) (ts : List Blk) (A' : Option Addr) (n' c' : Nat) (xs : List Int) (a : Int) (w : World) (h : BlksAt w w.heap.size A n ts) (h' : IntsAt w w.heap.size A' n' xs) (hn : n ≤ 1048576) (hn' : n' ≤ 1048576) :
    Calls Try.prog 47 #[.slice A n c, .slice A' n' c', .int .i64 a] w (UpPost w (.tuple #[.bool (heavR ts xs a), .bool (childOK ts xs a)])) := by
  have hl := Lib.hid h.1; have hl' := Lib.hid h'.1
  have hh := Lib.hid h; have hh' := Lib.hid h'; clear h h'
  cases hg : ownB ts xs
  · have hok := Lib.hid (show childOK ts xs a = false by unfold childOK; rw [hg]; rfl)
    have hr := Lib.hid (show heavR ts xs a = false by unfold heavR; rw [hok.out]; rfl)
    go_enter Try.func47, Try.ntmps47
    go_wp2_with (go_at_call 131; refine (l7Own_any A A' n n' c c' ts xs _ hh.out hh'.out hn hn').mono ?_; rintro e w1 ⟨rfl, b1⟩; rw [hg])
    go_ret2
    exact ⟨ret_bb hr.out.symm hok.out.symm, b1⟩
  · obtain ⟨ht0, hlx, ha⟩ := ownB_iff.1 hg
    have ht := Lib.hid ht0
    have hn0 : n' = n := by rw [← hl'.out, ← hl.out]; exact hlx
    subst hn0
    clear hlx ha ht0
    by_cases h0 : 1 ≤ a
    · obtain ⟨k, rfl⟩ := Int.eq_ofNat_of_zero_le (show 0 ≤ a by omega)
      by_cases h1 : k < n'
      · have hk0 : k ≠ 0 := by omega
        have hok := Lib.hid (show childOK ts xs (k : Int) = true from childOK_iff.2 ⟨ownB_iff.1 hg, k, rfl, by rw [hl.out]; exact h1, hk0⟩)
        have hu := ht.out.up (k := k) (by rw [hl.out]; exact h1) hk0
        obtain ⟨p, hp⟩ : ∃ p, parN ts k = p := ⟨_, rfl⟩
        have hr := Lib.hid (show heavR ts xs (k : Int) = (bestL (getI (sub ts xs)) (kids ts p) == (k : Int)) by
          unfold heavR; rw [hok.out, Bool.true_and, Int.toNat_natCast, chos_best ht.out _ (by rw [hl.out]; exact h1) hk0, hp]
          by_cases e : bestL (getI (sub ts xs)) (kids ts p) = (k : Int) <;> simp [e])
        obtain ⟨tb, to, e, htb, hc, _⟩ := hh.out.2 k h1
        rw [show (ts[k]?.getD (0, 0)).1 = (p : Int) from by rw [← hp]; exact hu.1] at hc
        have hsl := Lib.hid (show (sub ts xs).length = n' by rw [sub_len, hl'.out])
        have h1I : ¬ (n' : Int) ≤ (k : Int) := by omega
        have h1J : (k : Int) < (n' : Int) := by omega
        have h0I : ¬ (k : Int) < 1 := by omega
        obtain ⟨r, hrr⟩ : ∃ r, bestL (getI (sub ts xs)) (kids ts p) = r := ⟨_, rfl⟩
        have hr' := Lib.hid (hr.out.trans (by rw [hrr]))
        have hrr' := Lib.hid hrr
        subst e
        clear h0 hu hp hr hrr
        go_enter Try.func47, Try.ntmps47
        go_wp2_with (go_at_call 131; refine (l7Own_any _ A' n' n' c c' ts xs _ hh.out hh'.out hn hn').mono ?_; rintro e w1 ⟨rfl, b1⟩; rw [hg]; have u1 := Lib.hid b1; clear b1)
        have hcA := (u1.out.cell (p := ⟨tb, to + k * 2, none⟩) htb).trans hc
        have hTs := Lib.hid (l7Sub_any _ n' c ts A' c' xs w1.drew (show BlksAt w1.drew w1.drew.heap.size _ n' ts from ⟨(hh.out.up u1.out).1, (hh.out.up u1.out).2⟩) (show IntsAt w1.drew w1.drew.heap.size A' n' xs from ⟨(hh'.out.up' u1.out).1, (hh'.out.up' u1.out).2⟩) ht.out)
        go_region_with (first
          | (go_at_call 135
             refine hTs.out.mono ?_
             rintro e w2 ⟨A2, n2, c2, rfl, o2, b2⟩
             have hn2 : n2 = n' := by rw [← o2.len]; exact hsl.out
             subst hn2
             have b2' := Lib.hid (show Below w1.heap.size w1 w2 from ⟨b2.os, b2.tape, b2.output, b2.size, b2.block⟩)
             have hcA2 := ((u1.out.trans (b2'.out.mono u1.out.size)).cell (p := ⟨tb, to + k * 2, none⟩) htb).trans hc
             have i2 := Lib.hid o2.ints
             clear b2 o2)
          | (go_at_call 145
             refine (l7Child_any _ n2 c ts A2 c2 (sub ts xs) p _ (hh.out.up (u1.out.trans (b2'.out.mono u1.out.size))) i2.out ht.out).mono ?_
             rintro e w3 ⟨rfl, b3⟩
             rw [hrr'.out]
             have b3' := Lib.hid ((u1.out.trans (b2'.out.mono u1.out.size)).trans (b3.mono (u1.out.trans (b2'.out.mono u1.out.size)).size))
             clear b3))
        all_goals
          go_wp2_with fail
          go_ret2
          exact ⟨ret_bb hr'.out.symm hok.out.symm, b3'.out⟩
      · have hok := Lib.hid (child_no_high (ts := ts) (xs := xs) (a := k) (by rw [hl.out]; omega))
        have hr := Lib.hid (show heavR ts xs (k : Int) = false by unfold heavR; rw [hok.out]; rfl)
        have h1I : (n' : Int) ≤ (k : Int) := by omega
        have h0I : ¬ (k : Int) < 1 := by omega
        clear h0
        go_enter Try.func47, Try.ntmps47
        go_wp2_with (go_at_call 131; refine (l7Own_any A A' n' n' c c' ts xs _ hh.out hh'.out hn hn').mono ?_; rintro e w1 ⟨rfl, b1⟩; rw [hg])
        go_ret2
        exact ⟨ret_bb hr.out.symm hok.out.symm, b1⟩
    · have hok := Lib.hid (child_no_low (ts := ts) (xs := xs) (a := a) (by omega))
      have hr := Lib.hid (show heavR ts xs a = false by unfold heavR; rw [hok.out]; rfl)
      have h0' : a < 1 := by omega
      go_enter Try.func47, Try.ntmps47
      go_wp2_with (go_at_call 131; refine (l7Own_any A A' n' n' c c' ts xs _ hh.out hh'.out hn hn').mono ?_; rintro e w1 ⟨rfl, b1⟩; rw [hg])
      go_ret2
      exact ⟨ret_bb hr.out.symm hok.out.symm, b1⟩
end Go.Proofs.Ytlobjfipefibaab
