/- What is proved here: what the model's BetweenOf, SumTo and FirstAbove return, at every list of 64-bit cells. No conditions but the cells' number. -/
import Derived.Test.YtbhogcecjmlomaaFenModel
namespace Go.Proofs.Ytbhogcecjmlomaa
open Go.RowKit

/-- Of good cells, a sum of weights is a difference of two sums from the front, and small. -/
theorem fs_small {xs : List Int} (hr : I64s xs) (hg : goodS xs = true) : ∀ j, j ≤ xs.length → 0 ≤ fs xs j ∧ fs xs j ≤ 110000000 := fun j hj => by
  obtain ⟨h1, _, _, h4⟩ := goodS_ok hr hg
  have := fs_bd h1.2 h4 j hj
  omega
theorem bet_sum {xs : List Int} (hr : I64s xs) (hg : goodS xs = true) {f t : Nat} (hf : f ≤ t) (ht : t ≤ xs.length) : sumL (((wts xs).take t).drop f) = wrap64 (fs xs t - fs xs f) := by
  rw [sum_part _ hf, wts_sum xs t ht, wts_sum xs f (by omega)]
  have h1 := fs_small hr hg t ht
  have h2 := fs_small hr hg f (by omega)
  unfold wrap64
  omega
theorem bet_bounds {xs : List Int} (hr : I64s xs) (hg : goodS xs = true) {f t : Nat} (hf : f ≤ t) (ht : t ≤ xs.length) : ∀ k, k ≤ t - f → -1000000000 ≤ sumL ((((wts xs).take t).drop f).take k) ∧ sumL ((((wts xs).take t).drop f).take k) ≤ 1000000000 := fun k hk => by
  have := sums_part (wts xs) (lo := 0) (hi := 110000000) f t hf (by rw [wts_len]; exact ht) (fun j hj => by
    rw [wts_len] at hj
    rw [wts_sum xs j hj]
    exact fs_small hr hg j hj) k hk
  omega

set_option maxRecDepth 100000 in
set_option maxHeartbeats 1600000 in
theorem specBetween_any (A : Option Addr) (n c : Nat) (xs : List Int) (f t : Int) (w : World) (h : IntsAt w w.heap.size A n xs) (hn : n ≤ 1048576) (hi : I64s xs) :
    Calls Try.prog 56 #[.agg #[.slice A n c], .int .i64 f, .int .i64 t] w (RetTwo w (betR xs f t) (betOk xs f t)) := by
  have hl := Lib.hid h.1
  have hr := Lib.hid h; clear h
  have hge := Lib.hid (good_eq hi)
  have hi' := Lib.hid hi; clear hi
  cases hg : goodS xs
  · have hk' := Lib.hid (show betOk xs f t = false by unfold betOk; rw [hg]; rfl)
    have hR := Lib.hid (show betR xs f t = 0 by unfold betR; rw [hk'.out]; rfl)
    have hgm := Lib.hid (hge.out.trans hg)
    clear hg
    go_enter Try.func56, Try.ntmps56
    go_wp2_with fail
    refine (l5BackC_any A n c xs _ (hr.out.box _) hn).mono ?_
    rintro e w1 ⟨A1, n1, c1, rfl, o1, b1, _, _⟩
    have b1' := Lib.hid (((box_below w _).trans (b1.mono (box_below w _).size)))
    rw [hgm.out]
    clear o1 b1
    go_wp2_with fail
    go_ret2
    exact ⟨ret_two hR.out.symm hk'.out.symm, b1'.out⟩
  · have hgm := Lib.hid (hge.out.trans hg)
    have hB := Lib.hid (show backR xs = wts xs by unfold backR; rw [hgm.out]; rfl)
    have hg' := Lib.hid hg
    have hq := goodS_few hg
    rw [hl.out] at hq
    clear hg
    cases ht : inB t 0 n
    · have hk' := Lib.hid (show betOk xs f t = false by unfold betOk; rw [hl.out, ht]; simp)
      have hR := Lib.hid (show betR xs f t = 0 by unfold betR; rw [hk'.out]; rfl)
      go_enter Try.func56, Try.ntmps56
      go_wp2_with fail
      refine (l5BackC_any A n c xs _ (hr.out.box _) hn).mono ?_
      rintro e w1 ⟨A1, n1, c1, rfl, o1, b1, _, _⟩
      have b1' := Lib.hid (((box_below w _).trans (b1.mono (box_below w _).size)))
      have hn1 : n1 = n := by rw [← o1.len, hB.out, wts_len]; exact hl.out
      clear o1 b1
      subst hn1
      rw [hgm.out]
      go_wp2_with (go_at_call 87; refine (l1In_any _ _ _ _).mono ?_; rintro e w' ⟨rfl, rfl⟩)
      go_ret2
      exact ⟨ret_two hR.out.symm hk'.out.symm, b1'.out⟩
    · cases hf : inB f 0 t
      · have hk' := Lib.hid (show betOk xs f t = false by unfold betOk; rw [hf]; simp)
        have hR := Lib.hid (show betR xs f t = 0 by unfold betR; rw [hk'.out]; rfl)
        go_enter Try.func56, Try.ntmps56
        go_wp2_with fail
        refine (l5BackC_any A n c xs _ (hr.out.box _) hn).mono ?_
        rintro e w1 ⟨A1, n1, c1, rfl, o1, b1, _, _⟩
        have b1' := Lib.hid (((box_below w _).trans (b1.mono (box_below w _).size)))
        have hn1 : n1 = n := by rw [← o1.len, hB.out, wts_len]; exact hl.out
        clear o1 b1
        subst hn1
        rw [hgm.out]
        go_wp2_with (go_at_call 87; refine (l1In_any _ _ _ _).mono ?_; rintro e w' ⟨rfl, rfl⟩)
        go_ret2
        exact ⟨ret_two hR.out.symm hk'.out.symm, b1'.out⟩
      · have hk' := Lib.hid (show betOk xs f t = true by unfold betOk; rw [hl.out, ht, hf, hg'.out]; rfl)
        have hR0 := Lib.hid (show betR xs f t = wrap64 (fs xs t.toNat - fs xs f.toNat) by unfold betR; rw [hk'.out]; rfl)
        obtain ⟨t0, t1⟩ := inB_iff.1 ht
        obtain ⟨f0, f1⟩ := inB_iff.1 hf
        obtain ⟨f', rfl⟩ := Int.eq_ofNat_of_zero_le f0
        obtain ⟨t', rfl⟩ := Int.eq_ofNat_of_zero_le t0
        have hft : f' ≤ t' := by omega
        have htn : t' ≤ n := by omega
        have hR := Lib.hid (show betR xs f' t' = sumL (((wts xs).take t').drop f') by rw [hR0.out]; exact (bet_sum hi'.out hg'.out hft (by rw [hl.out]; exact htn)).symm)
        have hbd := Lib.hid (bet_bounds hi'.out hg'.out hft (by rw [hl.out]; exact htn))
        clear hR0 t0 t1 f0 f1
        go_enter Try.func56, Try.ntmps56
        go_wp2_with fail
        refine (l5BackC_any A n c xs _ (hr.out.box _) hn).mono ?_
        rintro e w1 ⟨A1, n1, c1, rfl, o1, b1, hcap1, hcap2⟩
        have b1' := Lib.hid (((box_below w _).trans (b1.mono (box_below w _).size)))
        have hn1 : n1 = n := by rw [← o1.len, hB.out, wts_len]; exact hl.out
        subst hn1
        unfold maxLen at hcap2
        rw [hgm.out]
        rw [hB.out] at o1
        obtain ⟨g, m, fx, rfl, _, _, _⟩ := o1.own (by omega)
        have hpart := Lib.hid (show IntsAt w1 w1.heap.size (some ⟨g, f', none⟩) (t' - f') (((wts xs).take t').drop f') by
          have := o1.ints.part (i := f') (j := t') hft htn
          rwa [Nat.zero_add] at this)
        clear o1 b1
        by_cases hlk : f' = t'
        · subst hlk
          have hR2 := Lib.hid (show betR xs f' f' = sumL [] by rw [hR.out]; simp)
          by_cases hce : c1 = f'
          · subst hce
            go_wp2_with (go_at_call 87; refine (l1In_any _ _ _ _).mono ?_; rintro e w' ⟨rfl, rfl⟩)
            refine (sumPart_any _ 0 _ w1.heap.size [] _ IntsAt.none_ (by omega) (fun j _ => by simp [sumL])).mono ?_
            rintro e w2 ⟨s, rfl, hs, s0, s1, rfl⟩
            go_wp2_with fail
            go_ret2
            exact ⟨ret_two (hs.out.trans hR2.out.symm) hk'.out.symm, b1'.out⟩
          · have hcl : f' < c1 := by omega
            go_wp2_with (go_at_call 87; refine (l1In_any _ _ _ _).mono ?_; rintro e w' ⟨rfl, rfl⟩)
            refine (sumPart_any _ 0 _ w1.heap.size [] _ IntsAt.none_ (by omega) (fun j _ => by simp [sumL])).mono ?_
            rintro e w2 ⟨s, rfl, hs, s0, s1, rfl⟩
            go_wp2_with fail
            go_ret2
            exact ⟨ret_two (hs.out.trans hR2.out.symm) hk'.out.symm, b1'.out⟩
        · have hlt2 : f' < t' := by omega
          have hcl : f' < c1 := by omega
          go_wp2_with (go_at_call 87; refine (l1In_any _ _ _ _).mono ?_; rintro e w' ⟨rfl, rfl⟩)
          refine (sumPart_any _ (t' - f') _ w1.heap.size _ _ hpart.out (by omega) hbd.out).mono ?_
          rintro e w2 ⟨s, rfl, hs, s0, s1, rfl⟩
          go_wp2_with fail
          go_ret2
          exact ⟨ret_two (hs.out.trans hR.out.symm) hk'.out.symm, b1'.out⟩

set_option maxRecDepth 100000 in
theorem specSumTo_any (A : Option Addr) (n c : Nat) (xs : List Int) (t : Int) (w : World) (h : IntsAt w w.heap.size A n xs) (hn : n ≤ 1048576) (hi : I64s xs) :
    Calls Try.prog 58 #[.agg #[.slice A n c], .int .i64 t] w (RetTwo w (betR xs 0 t) (betOk xs 0 t)) := by
  have hr := Lib.hid h; clear h
  have hi' := Lib.hid hi; clear hi
  go_enter Try.func58, Try.ntmps58
  go_wp2_with fail
  refine (specBetween_any A n c xs 0 t _ (hr.out.box _) hn hi'.out).mono ?_
  rintro e w1 ⟨rfl, b1⟩
  have b1' := Lib.hid (((box_below w _).trans (b1.mono (box_below w _).size)))
  clear b1
  go_wp2_with fail
  go_ret2
  exact ⟨rfl, b1'.out⟩

set_option maxRecDepth 100000 in
set_option maxHeartbeats 1600000 in
theorem specFirst_any (A : Option Addr) (n c : Nat) (xs : List Int) (N : Int) (w : World) (h : IntsAt w w.heap.size A n xs) (hn : n ≤ 1048576) (hi : I64s xs) (hN1 : N ≤ 9223372036854775807) :
    Calls Try.prog 53 #[.agg #[.slice A n c], .int .i64 N] w (RetTwo w (fabR xs N) (fabOk xs N)) := by
  have hl := Lib.hid h.1
  have hr := Lib.hid h; clear h
  have hge := Lib.hid (good_eq hi)
  have hi' := Lib.hid hi; clear hi
  cases hg : goodS xs
  · have hk' := Lib.hid (show fabOk xs N = false by unfold fabOk; rw [hg]; rfl)
    have hR := Lib.hid (show fabR xs N = 0 by unfold fabR; rw [hk'.out]; rfl)
    have hgm := Lib.hid (hge.out.trans hg)
    clear hg
    go_enter Try.func53, Try.ntmps53
    go_wp2_with fail
    refine (l5BackC_any A n c xs _ (hr.out.box _) hn).mono ?_
    rintro e w1 ⟨A1, n1, c1, rfl, o1, b1, _, _⟩
    have b1' := Lib.hid (((box_below w _).trans (b1.mono (box_below w _).size)))
    rw [hgm.out]
    clear o1 b1
    go_wp2_with fail
    go_ret2
    exact ⟨ret_two hR.out.symm hk'.out.symm, b1'.out⟩
  · have hgm := Lib.hid (hge.out.trans hg)
    have hB := Lib.hid (show backR xs = wts xs by unfold backR; rw [hgm.out]; rfl)
    have hg' := Lib.hid hg
    obtain ⟨q1, q2, q3, q4⟩ := goodS_ok hi'.out hg
    rw [hl.out] at q1 q3
    have hw := Lib.hid q3
    have hfs := Lib.hid (show ∀ j, j ≤ n → 0 ≤ fs xs j ∧ fs xs j ≤ 110000000 from fun j hj => fs_small hi'.out hg'.out j (by rw [hl.out]; exact hj))
    clear hg q2 q3 q4
    by_cases hN : 0 ≤ N
    · have hct := Lib.hid (ctOf_is xs hN n)
      have hok := Lib.hid (show fabOk xs N = decide (ctOf xs N n < n) by unfold fabOk; rw [hg'.out, hl.out, decide_eq_true hN]; rfl)
      have hNn : ¬ N < 0 := by omega
      go_enter Try.func53, Try.ntmps53
      go_wp2_with fail
      refine (l5BackC_any A n c xs _ (hr.out.box _) hn).mono ?_
      rintro e w1 ⟨A1, n1, c1, rfl, o1, b1, hcap1, hcap2⟩
      have b1' := Lib.hid (((box_below w _).trans (b1.mono (box_below w _).size)))
      have hn1 : n1 = n := by rw [← o1.len, hB.out, wts_len]; exact hl.out
      subst hn1
      rw [hgm.out]
      rw [hB.out] at o1
      have hia := Lib.hid o1.ints
      clear o1 b1
      go_wp2_with fail
      go_loop [1, 23] (fun m i => ∃ k : Nat, k ≤ n1 ∧ i = .int .i64 k ∧ m = .int .i64 (N - fs xs k) ∧ fs xs k ≤ N) (fun _ i => n1 - (intOf i).toNat)
      case atStart => exact ⟨0, Nat.zero_le _, rfl, by rw [fs_zero]; simp, by rw [fs_zero]; exact hN⟩
      case round =>
        obtain ⟨k, hk, rfl, rfl, hle⟩ := hrel
        obtain ⟨s0, s1⟩ := hfs.out k hk
        by_cases hlt : k < n1
        · obtain ⟨b, off, rfl, _, hc⟩ := hia.out.2 k hlt
          obtain ⟨x0, x1⟩ := hw.out k hlt
          rw [wts_get (by rw [hl.out]; exact hlt)] at hc
          obtain ⟨S, hS⟩ : ∃ S, Hid (fs xs k = S) := ⟨_, Lib.hid rfl⟩
          obtain ⟨X, hX⟩ : ∃ X, Hid (wt xs k = X) := ⟨_, Lib.hid rfl⟩
          have hstep := Lib.hid (show fs xs (k + 1) = S + X by have h1 := hX.out; have h2 := hS.out; unfold wt at h1; omega)
          rw [hS.out] at s0 s1 hle ⊢
          rw [hX.out] at hc x0 x1
          by_cases hgt : N - S < X
          · go_wp2_with fail
            go_ret2
            have hm : IsMost xs n1 N k := ⟨hk, by rw [hS.out]; exact hle, fun _ => by rw [hstep.out]; omega⟩
            have he := most_uniq (fun j hj => (hw.out j hj).1) hm hct.out
            have hk' : fabOk xs N = true := by rw [hok.out, ← he]; simpa using hlt
            exact ⟨ret_two (by unfold fabR; rw [hk', hl.out, ← he]; rfl) hk'.symm, b1'.out⟩
          · go_wp2_with fail
            go_round
            case rel => exact ⟨k + 1, by omega, by go_num, by rw [hstep.out]; go_num, by rw [hstep.out]; omega⟩
            case measure => simp [intOf]; omega
        · have hkn : k = n1 := by omega
          go_wp2_with fail
          go_ret2
          have hm : IsMost xs n1 N n1 := ⟨Nat.le_refl _, by rw [← hkn]; exact hle, fun h => absurd h (Nat.lt_irrefl _)⟩
          have he := most_uniq (fun j hj => (hw.out j hj).1) hm hct.out
          have hk' : fabOk xs N = false := by rw [hok.out, ← he]; simp
          exact ⟨ret_two (by unfold fabR; rw [hk']; rfl) hk'.symm, b1'.out⟩
    · have hk' := Lib.hid (show fabOk xs N = false by unfold fabOk; rw [decide_eq_false hN]; simp)
      have hR := Lib.hid (show fabR xs N = 0 by unfold fabR; rw [hk'.out]; rfl)
      have hNn : N < 0 := by omega
      go_enter Try.func53, Try.ntmps53
      go_wp2_with fail
      refine (l5BackC_any A n c xs _ (hr.out.box _) hn).mono ?_
      rintro e w1 ⟨A1, n1, c1, rfl, o1, b1, _, _⟩
      have b1' := Lib.hid (((box_below w _).trans (b1.mono (box_below w _).size)))
      rw [hgm.out]
      clear o1 b1
      go_wp2_with fail
      go_ret2
      exact ⟨ret_two hR.out.symm hk'.out.symm, b1'.out⟩
end Go.Proofs.Ytbhogcecjmlomaa
