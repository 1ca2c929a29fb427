/- What is proved here: what the model's l7Own, l7Sub, l7Child, l7Head, SubWeights, HeadFrom and IsHeaviest return. No conditions but lengths. -/
import Derived.Test.YtlobjfipefibaaaGhostHead
import Derived.Test.YtlobjfipefibaaaSpecOrder
namespace Go.Proofs.Ytlobjfipefibaaa
open Go.RowKit

/-- The model's copy of a list, ahead of a loop that writes it. -/
theorem own_snoc0 {w1 : World} {B g n c' : Nat} {l : List Int} (hl : l.length = n) (h1 : w1.ownsRow B 3 1 (.slice (some ⟨g, 0, none⟩) n c') l.length (l.map (Value.int .i64))) : OwnAt w1 B (some ⟨g, 0, none⟩) n l := by
  subst hl
  obtain ⟨A1, c1, e1, o1⟩ := OwnAt.of_owns h1
  have hA1 : A1 = some ⟨g, 0, none⟩ := by injection e1 with e1 _ _; exact e1.symm
  rw [hA1] at o1
  exact o1
theorem bestL_in (S : Nat → Int) (n : Nat) : ∀ (l : List Nat) (m : Int), (m = -1 ∨ ∃ y : Nat, m = y ∧ y < n) → (∀ i, i ∈ l → i < n) →
    (l.foldl (fun m k => if m < 0 ∨ S m.toNat ≤ S k then (k : Int) else m) m = -1 ∨ ∃ y : Nat, l.foldl (fun m k => if m < 0 ∨ S m.toNat ≤ S k then (k : Int) else m) m = y ∧ y < n) := by
  intro l
  induction l with
  | nil => intro m hm _; exact hm
  | cons x l ih =>
    intro m hm hl
    simp only [List.foldl_cons]
    refine ih _ ?_ (fun i hi => hl i (List.mem_cons_of_mem _ hi))
    split
    · exact .inr ⟨x, rfl, hl x (List.mem_cons_self ..)⟩
    · exact hm

set_option maxRecDepth 100000 in
set_option maxHeartbeats 800000 in
theorem l7Sub_any (A : Option Addr) (n c : Nat) (ts : List Blk) (A' : Option Addr) (c' : Nat) (xs : List Int) (w : World) (h : BlksAt w w.heap.size A n ts) (h' : IntsAt w w.heap.size A' n xs) (ht0 : Tree ts) :
    Calls Try.prog 129 #[.slice A n c, .slice A' n c'] w (RetSl w (sub ts xs)) := by
  obtain ⟨i0, hi, hz0, hz1, hz2⟩ := info_parts info3
  have hl := Lib.hid h.1; have hl' := Lib.hid h'.1
  have hh := Lib.hid h; have hh' := Lib.hid h'; clear h h'
  have ht := Lib.hid ht0
  have hpos : 0 < n := by rw [← hl.out]; exact ht0.pos
  have hfew : n ≤ 24 := by rw [← hl.out]; exact ht0.few
  obtain ⟨ab, ao, rfl, hab, hca⟩ := hh'.out.2 0 hpos
  obtain ⟨tb, to, rfl, _, _⟩ := hh.out.2 0 hpos
  have hca' := Lib.hid (show ∀ j, j < n → w.cell? ⟨ab, ao + j, none⟩ = some (.int .i64 (xs[j]?.getD 0)) from fun j hj => by
    obtain ⟨b', o', e, _, hc⟩ := hh'.out.2 j hj
    cases e; exact hc)
  have hsub0 := Lib.hid (show subs ts xs (n - 1 - (n - 1)) = xs by rw [Nat.sub_self]; rfl)
  have hsubn := Lib.hid (show subs ts xs (n - 1 - 0) = sub ts xs by unfold sub; rw [hl.out]; rfl)
  have h0 := Lib.hid (World.ownsRow_made (base := w.heap.size) (e := 3) (size := 1) w #[] 0 (Nat.le_refl _) (by decide) rfl)
  have hnI : (n : Int) - 1 = ((n - 1 : Nat) : Int) := by omega
  clear ht0 hca
  go_enter Try.func129, Try.ntmps129
  go_wp2_with (at_builtin; refine appendAll _ rfl _ _ 23 rfl w.heap.size i0 Try.underlying23 hi hz0 hz1 hz2 _ [] rfl ?k1 ab ao n c' xs hl'.out hpos rfl ?k2 ?k3 ?k4 ?k5)
  case k1 => exact h0.out
  case k2 => intro j hj; exact (((Below.refl w.heap.size w).alloc (Nat.le_refl _) _).cell (p := ⟨ab, ao + j, none⟩) (by show ab < w.heap.size; exact hab)).trans (hca'.out j hj)
  case k3 => simp; omega
  case k4 => simp
  case k5 =>
    intro g cg w1 h1 h2 h3
    have b1 : Below w.heap.size w w1 := ((Below.refl w.heap.size w).alloc (Nat.le_refl _) _).grown h2 (by simp) (fun k e => by cases e; exact Nat.le_refl _)
    have o1 := own_snoc0 hl'.out h1
    have o1' := Lib.hid o1; have b1' := Lib.hid b1
    have lo := Lib.hid (show w.heap.size ≤ g from (o1.low _ rfl).1)
    clear h1 h2 h3 b1 o1 h0
    go_wp2_with fail
    go_loopw [6] (fun i wr => ∃ k : Nat, k < n ∧ i = .int .i64 k ∧ Hid (OwnAt wr w.heap.size (some ⟨g, 0, none⟩) n (subs ts xs (n - 1 - k))) ∧ Hid (Below w.heap.size w wr)) (fun i _ => (intOf i).toNat)
    case atStart => exact ⟨n - 1, by omega, by first | rfl | (rw [hnI]) | (congr 1), Lib.hid (by rw [hsub0.out]; exact o1'.out), b1'⟩
    case round =>
      obtain ⟨k, hk, rfl, ho, hbel⟩ := hrel
      by_cases h0 : k = 0
      · subst h0
        have o9 := Lib.hid (show OwnAt wr w.heap.size (some ⟨g, 0, none⟩) n (sub ts xs) by rw [← hsubn.out]; exact ho.out)
        go_wp2_with fail
        go_ret
        exact ⟨_, n, cg, by first | rfl | simp, o9.out, hbel.out⟩
      · have hp := ht.out.up (k := k) (by rw [hl.out]; exact hk) h0
        obtain ⟨p, hpe⟩ : ∃ p, parN ts k = p := ⟨_, rfl⟩
        obtain ⟨tb', to', e, htb, hc0, _⟩ := hh.out.2 k hk
        cases e
        have hc := (hbel.out.cell (p := ⟨tb, to + k * 2, none⟩) htb).trans hc0
        rw [show (ts[k]?.getD (0, 0)).1 = (p : Int) from by rw [← hpe]; exact hp.1] at hc
        have hpk : p < k := by rw [← hpe]; exact hp.2
        have hst := Lib.hid (subs_next ts xs hl.out hk h0)
        rw [hpe] at hst
        obtain ⟨g', m, f, e, hm, hrow, hf⟩ := ho.out.own hpos
        cases e
        have d1 := hrow.cell (i := p) (by omega)
        have d2 := hrow.cell (i := k) (by omega)
        have fz := hrow.frozen p
        rw [hf p (by omega)] at d1
        rw [hf k hk] at d2
        obtain ⟨x, hx⟩ : ∃ x, (subs ts xs (n - 1 - k))[p]?.getD 0 = x := ⟨_, rfl⟩
        obtain ⟨y, hy⟩ : ∃ y, (subs ts xs (n - 1 - k))[k]?.getD 0 = y := ⟨_, rfl⟩
        rw [hx] at d1
        rw [hy] at d2
        have o9 := Lib.hid (show OwnAt (wr.setCell ⟨g, p, none⟩ (.int .i64 (wrap64 (x + y)))) w.heap.size (some ⟨g, 0, none⟩) n (subs ts xs (n - 1 - (k - 1))) by
          rw [hst.out]
          unfold addI getI
          rw [hx, hy]
          exact ho.out.setAt' (by omega) _)
        have b9 := Lib.hid (hbel.out.setCell (p := ⟨g, p, none⟩) lo.out (.int .i64 (wrap64 (x + y))))
        have hkI : (k : Int) < (n : Int) := by omega
        have hpI : (p : Int) < (n : Int) := by omega
        have hpn : p < n := by omega
        have hk0 : 0 < k := by omega
        clear hp hpe hc0 hrow hf hx hy ho hbel hst h0
        go_wp2_with fail
        go_still_tail 14, (by kernel_rfl)
        change wpList _ _ _ _ _ wr.drew
        go_wp2_with fail
        go_roundw
        case rel => exact ⟨k - 1, by omega, by go_num, ⟨o9.out.1, o9.out.2, o9.out.3⟩, ⟨b9.out.1, b9.out.2, b9.out.3, b9.out.4, b9.out.5⟩⟩
        case measure => simp [intOf]; omega

set_option maxRecDepth 100000 in
set_option maxHeartbeats 800000 in
theorem l7Child_any (A : Option Addr) (n c : Nat) (ts : List Blk) (A' : Option Addr) (c' : Nat) (ys : List Int) (b : Nat) (w : World) (h : BlksAt w w.heap.size A n ts) (h' : IntsAt w w.heap.size A' n ys) (ht0 : Tree ts) :
    Calls Try.prog 130 #[.slice A n c, .slice A' n c', .int .i64 b] w (UpPost w (.int .i64 (bestL (getI ys) (kids ts b)))) := by
  have hl := Lib.hid h.1; have hl' := Lib.hid h'.1
  have hh := Lib.hid h; have hh' := Lib.hid h'; clear h h'
  have ht := Lib.hid ht0
  have hpos : 0 < n := by rw [← hl.out]; exact ht0.pos
  have hfew : n ≤ 24 := by rw [← hl.out]; exact ht0.few
  obtain ⟨ab, ao, rfl, hab, _⟩ := hh'.out.2 0 hpos
  have hys := Lib.hid (show ∀ j, j < n → w.cell? ⟨ab, ao + j, none⟩ = some (.int .i64 (getI ys j)) from fun j hj => by
    obtain ⟨b', o', e, _, hc⟩ := hh'.out.2 j hj
    cases e; exact hc)
  have hkn := Lib.hid (show kidsL ts b n = kids ts b by unfold kids; rw [hl.out])
  clear ht0
  go_enter Try.func130, Try.ntmps130
  go_wp2_with fail
  refine (l4Children_any A n c ts b _ hh.out (by omega) ht.out).mono ?_
  rintro e w1 ⟨A1, n1, c1, rfl, o1, b1⟩
  rw [hkn.out] at o1
  have hln : Hid ((kids ts b).length = n1) := Lib.hid (by have := o1.len; unfold kidsZ at this; simpa using this)
  have hn1 : n1 ≤ 24 := by
    have h1 := List.length_filter_le (fun i => parZ ts i == (b : Int)) (List.range n)
    have h2 : (kidsL ts b n).length = n1 := by rw [hkn.out]; exact hln.out
    unfold kidsL at h2
    simp at h1
    omega
  have i1 := Lib.hid o1.ints
  have u1 := Lib.hid b1
  clear o1 b1
  go_wp2_with fail
  go_loopw [7, 9, 14] (fun m _ i wr => ∃ k : Nat, k ≤ n1 ∧ i = .int .i64 k ∧ m = .int .i64 (bestL (getI ys) ((kids ts b).take k)) ∧ Hid (Below w1.heap.size w1 wr)) (fun _ _ i _ => n1 - (intOf i).toNat)
  case atStart => exact ⟨0, Nat.zero_le _, rfl, rfl, Lib.hid (Below.refl _ _)⟩
  case round =>
    obtain ⟨k, hk, rfl, rfl, hbel⟩ := hrel
    by_cases hlt : k < n1
    · obtain ⟨kb, ko, rfl, hkb, hkc⟩ := i1.out.2 k hlt
      have hkl : k < (kids ts b).length := by rw [hln.out]; exact hlt
      rw [kidsZ_at hkl] at hkc
      have hkc' := (hbel.out.cell (p := ⟨kb, ko + k, none⟩) hkb).trans hkc
      obtain ⟨x, hx⟩ : ∃ x, (kids ts b)[k]?.getD 0 = x := ⟨_, rfl⟩
      rw [hx] at hkc'
      have hx' : (kids ts b)[k] = x := by rw [List.getElem?_eq_getElem hkl] at hx; exact hx
      have hxm : x ∈ kids ts b := by rw [← hx']; exact List.getElem_mem hkl
      have hxn : x < n := by rw [← hl.out]; exact (kids_mem.1 hxm).1
      have hst := Lib.hid (show bestL (getI ys) ((kids ts b).take (k + 1)) = if bestL (getI ys) ((kids ts b).take k) < 0 ∨ getI ys (bestL (getI ys) ((kids ts b).take k)).toNat ≤ getI ys x then (x : Int) else bestL (getI ys) ((kids ts b).take k) by
        rw [List.take_succ_eq_append_getElem hkl, hx', bestL_snoc])
      have hm : ∀ z, bestL (getI ys) ((kids ts b).take k) = z → (z = -1 ∨ ∃ y : Nat, z = y ∧ y < n) := fun z hz => by
        have := bestL_in (getI ys) n ((kids ts b).take k) (-1) (.inl rfl)
        rw [← hz]
        exact this (fun i hi => by rw [← hl.out]; exact (kids_mem.1 (List.mem_of_mem_take hi)).1)
      generalize hM : bestL (getI ys) ((kids ts b).take k) = M at hm hst ⊢
      have dx := ((u1.out.trans (hbel.out.mono u1.out.size)).cell (p := ⟨ab, ao + x, none⟩) hab).trans (hys.out x hxn)
      have hkI : (k : Int) < (n1 : Int) := by omega
      have hxI : (x : Int) < (n : Int) := by omega
      clear hkc hx hx' hxm hkl hM
      rcases hm M rfl with rfl | ⟨y, rfl, hy⟩
      · have hst2 := Lib.hid (hst.out.trans (if_pos (.inl (by decide))))
        clear hm hst
        go_wp2_with fail
        go_quiet (fail)
        go_wp2_with fail
        go_roundw
        case rel => exact ⟨k + 1, by omega, by go_num, by rw [hst2.out], Lib.hid (below_drewN hbel.out _)⟩
        case measure => simp [intOf]; omega
      · have dy := ((u1.out.trans (hbel.out.mono u1.out.size)).cell (p := ⟨ab, ao + y, none⟩) hab).trans (hys.out y hy)
        rw [Int.toNat_natCast] at hst
        have hyI : (y : Int) < (n : Int) := by omega
        have hd1 : decide ((y : Int) < 0) = false := decide_eq_false (by omega)
        by_cases hc : getI ys y ≤ getI ys x
        · have hst2 := Lib.hid (hst.out.trans (if_pos (.inr hc)))
          have hd2 : decide (getI ys y ≤ getI ys x) = true := decide_eq_true hc
          clear hm hst hc
          go_wp2_with fail
          go_quiet (fail)
          go_wp2_with fail
          go_roundw
          case rel => exact ⟨k + 1, by omega, by go_num, by rw [hst2.out], Lib.hid (below_drewN hbel.out _)⟩
          case measure => simp [intOf]; omega
        · have hst2 := Lib.hid (hst.out.trans (if_neg (by omega)))
          have hd2 : decide (getI ys y ≤ getI ys x) = false := decide_eq_false hc
          clear hm hst hc
          go_wp2_with fail
          go_quiet (fail)
          go_wp2_with fail
          go_roundw
          case rel => exact ⟨k + 1, by omega, by go_num, by rw [hst2.out], Lib.hid (below_drewN hbel.out _)⟩
          case measure => simp [intOf]; omega
    · have hkn2 := Lib.hid (show (kids ts b).take k = kids ts b from List.take_of_length_le (by rw [hln.out]; omega))
      have u9 := Lib.hid (u1.out.trans (hbel.out.mono u1.out.size))
      go_wp2_with fail
      go_ret
      exact ⟨ret_int (by rw [hkn2.out]), u9.out⟩
end Go.Proofs.Ytlobjfipefibaaa

/- What is proved here: what the model's l7Head, HeadFrom and IsHeaviest return. No conditions but lengths. -/
namespace Go.Proofs.Ytlobjfipefibaaa
open Go.RowKit

set_option maxRecDepth 100000 in
set_option maxHeartbeats 800000 in
theorem l7Head_any (A : Option Addr) (n c : Nat) (ts : List Blk) (A' : Option Addr) (c' : Nat) (xs : List Int) (b : Nat) (w : World) (h : BlksAt w w.heap.size A n ts) (h' : IntsAt w w.heap.size A' n xs) (ht0 : Tree ts) (hb : b < n) :
    Calls Try.prog 114 #[.slice A n c, .slice A' n c', .int .i64 b] w (UpPost w (.int .i64 (headZ ts (getI (sub ts xs)) b : Nat))) := by
  have hl := Lib.hid h.1; have hl' := Lib.hid h'.1
  have hh := Lib.hid h; have hh' := Lib.hid h'; clear h h'
  have ht := Lib.hid ht0
  have hfew : n ≤ 24 := by rw [← hl.out]; exact ht0.few
  have hsl := Lib.hid (show (sub ts xs).length = n by rw [sub_len, hl'.out])
  clear ht0
  go_enter Try.func114, Try.ntmps114
  go_wp2_with fail
  refine (l7Sub_any A n c ts A' c' xs _ hh.out hh'.out ht.out).mono ?_
  rintro e w1 ⟨A1, n1, c1, rfl, o1, b1⟩
  have hn1 : n1 = n := by rw [← o1.len]; exact hsl.out
  subst hn1
  have i1 := Lib.hid o1.ints
  have u1 := Lib.hid b1
  clear o1 b1
  go_wp2_with fail
  refine (l7Child_any A n1 c ts A1 c1 (sub ts xs) b _ (hh.out.up u1.out) i1.out ht.out).mono ?_
  rintro e w2 ⟨rfl, b2⟩
  have u2 := Lib.hid (u1.out.trans (b2.mono u1.out.size))
  have i2 := Lib.hid (i1.out.up' b2)
  clear b2 i1
  go_wp2_with fail
  go_loopg [2, 8] n1 (fun g a k wr => ∃ x : Nat, x < n1 ∧ n1 ≤ g + x ∧ a = .int .i64 x ∧ k = .int .i64 (bestL (getI (sub ts xs)) (kids ts x)) ∧ Hid (headZ ts (getI (sub ts xs)) b = headZ ts (getI (sub ts xs)) x) ∧ Hid (Below w2.heap.size w2 wr))
  case atStart => exact ⟨b, hb, by omega, rfl, rfl, Lib.hid rfl, Lib.hid (Below.refl _ _)⟩
  case round =>
    obtain ⟨x, hx, hg, rfl, rfl, heq, hbel⟩ := hrel
    have hcs := best_kids ts (getI (sub ts xs)) x ts.length
    rcases hcs with ⟨_, e0⟩ | ⟨m, e1, e2, _⟩
    · have e0' : bestL (getI (sub ts xs)) (kids ts x) = -1 := e0
      have hst := Lib.hid (heq.out.trans (headZ_leaf (getI (sub ts xs)) (by rw [hl.out]; exact hx) e0'))
      have u9 := Lib.hid (u2.out.trans (hbel.out.mono u2.out.size))
      rw [e0']
      clear e0 e0'
      go_wp2_with fail
      go_ret
      exact ⟨ret_int (by rw [hst.out]), u9.out⟩
    · have e1' : bestL (getI (sub ts xs)) (kids ts x) = (m : Int) := e1
      have hst := Lib.hid (heq.out.trans (headZ_step ht.out (getI (sub ts xs)) (by rw [hl.out]; exact hx) e1'))
      have hma := kids_above ht.out e2
      have hmn : m < n1 := by rw [← hl.out]; exact hma.2.1
      have hxm : x < m := hma.1
      rw [e1']
      have u9 := Lib.hid (u2.out.trans (hbel.out.mono u2.out.size))
      have i9 := Lib.hid (i2.out.up' hbel.out)
      clear e1 e1' e2 hma
      go_wp2_with (go_at_call 130; refine (l7Child_any A n1 c ts A1 c1 (sub ts xs) m _ (hh.out.up u9.out) i9.out ht.out).mono ?_; rintro e w3 ⟨rfl, b3⟩; have b4 := Lib.hid (hbel.out.trans (b3.mono hbel.out.size)); clear b3)
      go_roundg (gk - 1)
      case measure => omega
      case rel => exact ⟨m, hmn, by omega, rfl, rfl, hst, b4⟩

theorem child_no_low {ts : List Blk} {xs : List Int} {a : Int} (h : a < 1) : childOK ts xs a = false := by unfold childOK; rw [inB_low h]; simp
theorem child_no_high {ts : List Blk} {xs : List Int} {a : Int} (h : (ts.length : Int) ≤ a) : childOK ts xs a = false := by unfold childOK; rw [inB_high (by omega)]; simp
theorem beq_nat (x y : Nat) : ((x : Int) == (y : Int)) = decide ((x : Int) = (y : Int)) := by
  by_cases h : (x : Int) = y <;> simp [h]

end Go.Proofs.Ytlobjfipefibaaa
