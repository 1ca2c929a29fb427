/- What is proved here: what the model's AddAt returns, at every list of 64-bit cells. No conditions but the cells' number. -/
import Derived.Test.YtbhogcecjmlomaaFenOf
namespace Go.Proofs.Ytbhogcecjmlomaa
open Go.RowKit

theorem OwnAt.setAt {w : World} {B g n : Nat} {xs : List Int} (h : OwnAt w B (some ⟨g, 0, none⟩) n xs) {j : Nat} (hj : j < n) (y : Int) : OwnAt (w.setCell ⟨g, j, none⟩ (.int .i64 y)) B (some ⟨g, 0, none⟩) n (xs.set j y) := by
  obtain ⟨g', m, f, e, hm, hr, hf⟩ := h.own (by omega)
  cases e
  refine ⟨by rw [List.length_set]; exact h.len, fun _ => ⟨g, m, _, rfl, hm, hr.set j (.int .i64 y), fun i hi => ?_⟩, fun ad e => by cases e; exact ⟨(h.low _ rfl).1, by simpa using (h.low _ rfl).2⟩⟩
  by_cases e : i = j
  · subst e
    have : i < xs.length := by rw [h.len]; exact hj
    simp [this]
  · simp only [e, if_false]
    rw [hf i hi, List.getElem?_set_ne (by omega)]
theorem add_eq {xs : List Int} (hr : I64s xs) (hg : goodS xs = true) {j : Nat} (hj : j < xs.length) {b : Int} (hb : -100000 ≤ b ∧ b ≤ 100000) : ofL ((wts xs).set j (wt xs j + b)) = addC xs j b := by
  obtain ⟨h1, _, _, h4⟩ := goodS_ok hr hg
  refine ext_get (by rw [ofL_len, List.length_set, wts_len, addC_len]) (fun k hk => ?_)
  rw [ofL_len, List.length_set, wts_len] at hk
  have := ofL_set (l := wts xs) (j := j) (by_ := b) (by rw [wts_len]; exact hj) (by rw [wts_len]; exact h1.2) (k := k) (by rw [wts_len]; exact hk)
  rw [wts_get hj, ofL_wts (by omega)] at this
  rw [this, addC_get hk]
  have h5 := h4 k hk
  split
  · unfold wrap64; omega
  · omega
theorem goodW_set {xs : List Int} (hr : I64s xs) (hg : goodS xs = true) {j : Nat} (hj : j < xs.length) {y : Int} (hy : 0 ≤ y ∧ y ≤ 100000) : goodW ((wts xs).set j y) = true := by
  obtain ⟨h1, _, h3, _⟩ := goodS_ok hr hg
  refine goodW_iff.2 ⟨by rw [List.length_set, wts_len]; exact h1, fun k hk => ?_⟩
  rw [List.length_set, wts_len] at hk
  by_cases e : k = j
  · subst e
    have hk2 : k < (wts xs).length := by rw [wts_len]; exact hk
    simp only [List.getElem?_set_self hk2, Option.getD_some]
    exact hy
  · rw [List.getElem?_set_ne (by omega), wts_get hk]
    exact h3 k hk

set_option maxRecDepth 100000 in
set_option maxHeartbeats 1600000 in
theorem specAddAt_any (A : Option Addr) (n c : Nat) (xs : List Int) (k b : Int) (w : World) (h : IntsAt w w.heap.size A n xs) (hn : n ≤ 1048576) (hi : I64s xs) :
    Calls Try.prog 49 #[.agg #[.slice A n c], .int .i64 k, .int .i64 b] w (RetSums w (addOk xs k b) (addR xs k b)) := by
  have hl := Lib.hid h.1
  have hr := Lib.hid h; clear h
  have hge := Lib.hid (good_eq hi)
  have hi' := Lib.hid hi; clear hi
  obtain ⟨rx1, rx2⟩ := row_box2 w (.slice A n c) (.slice none 0 0) 53
  have rx := Lib.hid rx2
  clear rx1 rx2
  by_cases hpre : goodS xs = true ∧ 0 ≤ k ∧ k < (n : Int)
  · obtain ⟨hg, hk0, hk1⟩ := hpre
    obtain ⟨j, rfl⟩ := Int.eq_ofNat_of_zero_le hk0
    have hj : j < n := by omega
    have hgm := Lib.hid (hge.out.trans hg)
    have hB := Lib.hid (show backR xs = wts xs by unfold backR; rw [hgm.out]; rfl)
    obtain ⟨q1, q2, q3, q4⟩ := goodS_ok hi'.out hg
    rw [hl.out] at q1 q2 q3
    obtain ⟨W0, W1⟩ := q3 j hj
    have hokd := Lib.hid (show addOk xs j b = inB (wt xs j + b) 0 100000 by
      unfold addOk
      rw [hg, hl.out, inB_true (n := (j : Int)) (by omega) (by omega), Int.toNat_natCast, q2 j hj, Bool.true_and, Bool.true_and, Bool.eq_iff_iff, inB_iff, inB_iff]
      omega)
    have hadd := Lib.hid (fun (hb : -100000 ≤ b ∧ b ≤ 100000) => add_eq hi'.out hg (j := j) (by rw [hl.out]; exact hj) hb)
    have hgw := Lib.hid (fun (y : Int) (hy : 0 ≤ y ∧ y ≤ 100000) => goodW_set hi'.out hg (j := j) (by rw [hl.out]; exact hj) hy)
    have hwj := Lib.hid (show (wts xs)[j]?.getD 0 = wt xs j from wts_get (by rw [hl.out]; exact hj))
    have hRn := Lib.hid (show addOk xs j b = false → addR xs j b = [] from fun e => by unfold addR; rw [e]; rfl)
    have hRc := Lib.hid (show addOk xs j b = true → addR xs j b = addC xs j b from fun e => by unfold addR; rw [e, if_pos rfl, Int.toNat_natCast])
    generalize wt xs j = W at W0 W1 hokd hadd hwj
    have hkn : ¬ ((j : Int) < 0) := by omega
    have hkm : ¬ ((n : Int) ≤ (j : Int)) := by omega
    clear hg q1 q2 q3 q4 hk0 hk1
    cases hx : inB b (-100000) 100000
    · have hok := Lib.hid (show addOk xs j b = false by
        rw [hokd.out]
        cases hy : inB (W + b) 0 100000
        · rfl
        · rw [inB_true (n := b) (by have := inB_iff.1 hy; omega) (by have := inB_iff.1 hy; omega)] at hx; cases hx)
      go_enter Try.func49, Try.ntmps49
      go_wp2_with fail
      refine (l5BackC_any A n c xs _ (hr.out.up (box2_below w _ _)) hn).mono ?_
      rintro e w1 ⟨A1, n1, c1, rfl, o1, b1, _, _⟩
      rw [box2_size] at b1 o1
      have hn1 : n1 = n := by rw [← o1.len, hB.out, wts_len]; exact hl.out
      subst hn1
      rw [hgm.out]
      have r2 := rowIs_below rx.out b1 (by omega)
      have u1 := Lib.hid ((box2_below w (.cells #[.slice A n1 c] 53) (.cells #[.slice none 0 0] 53)).trans (b1.mono (by omega)))
      have hc2 := r2.cell (i := 0) (by omega)
      have hf2 := r2.frozen 0
      have r2' := Lib.hid r2
      clear r2 b1 o1
      go_wp2_with (go_at_call 87; refine (l1In_any _ _ _ _).mono ?_; rintro e w' ⟨rfl, rfl⟩)
      refine bodyPost_ret (results_cell_row2 rfl _ _ (w.heap.size + 1) 53 #[.slice none 0 0] (0, 0) _ rfl (row_one_set r2'.out _) Try.underlying53 rfl (by kernel_rfl)) rfl ?_
      exact ⟨none, 0, 0, by rw [hok.out]; rfl, by rw [hRn.out hok.out]; exact own_nil _ _, u1.out.setCell (by simp) _⟩
    · obtain ⟨b0, b9⟩ := inB_iff.1 hx
      cases hy : inB (W + b) 0 100000
      · have hok := Lib.hid (hokd.out.trans hy)
        go_enter Try.func49, Try.ntmps49
        go_wp2_with fail
        refine (l5BackC_any A n c xs _ (hr.out.up (box2_below w _ _)) hn).mono ?_
        rintro e w1 ⟨A1, n1, c1, rfl, o1, b1, _, _⟩
        rw [box2_size] at b1 o1
        have hn1 : n1 = n := by rw [← o1.len, hB.out, wts_len]; exact hl.out
        subst hn1
        rw [hgm.out]
        rw [hB.out] at o1
        obtain ⟨lb, lo, rfl, _, hcl⟩ := o1.ints.2 j hj
        rw [hwj.out] at hcl
        have r2 := rowIs_below rx.out b1 (by omega)
        have u1 := Lib.hid ((box2_below w (.cells #[.slice A n1 c] 53) (.cells #[.slice none 0 0] 53)).trans (b1.mono (by omega)))
        have hc2 := r2.cell (i := 0) (by omega)
        have hf2 := r2.frozen 0
        have r2' := Lib.hid r2
        clear r2 b1 o1
        go_wp2_with (go_at_call 87; refine (l1In_any _ _ _ _).mono ?_; rintro e w' ⟨rfl, rfl⟩)
        refine bodyPost_ret (results_cell_row2 rfl _ _ (w.heap.size + 1) 53 #[.slice none 0 0] (0, 0) _ rfl (row_one_set r2'.out _) Try.underlying53 rfl (by kernel_rfl)) rfl ?_
        exact ⟨none, 0, 0, by rw [hok.out]; rfl, by rw [hRn.out hok.out]; exact own_nil _ _, u1.out.setCell (by simp) _⟩
      · have hok := Lib.hid (hokd.out.trans hy)
        obtain ⟨y0, y1⟩ := inB_iff.1 hy
        have hR := Lib.hid (show addR xs j b = ofL ((wts xs).set j (W + b)) by rw [hRc.out hok.out, hadd.out ⟨b0, b9⟩])
        have hgg := Lib.hid (hgw.out (W + b) ⟨y0, y1⟩)
        clear hgw hadd hRn hRc
        go_enter Try.func49, Try.ntmps49
        go_wp2_with fail
        refine (l5BackC_any A n c xs _ (hr.out.up (box2_below w _ _)) hn).mono ?_
        rintro e w1 ⟨A1, n1, c1, rfl, o1, b1, hcap1, hcap2⟩
        rw [box2_size] at b1 o1
        have hn1 : n1 = n := by rw [← o1.len, hB.out, wts_len]; exact hl.out
        subst hn1
        rw [hgm.out]
        rw [hB.out] at o1
        obtain ⟨g, m, fx, rfl, hm1, hrow, hf⟩ := o1.own (by omega)
        have hcl := hrow.cell (i := j) (by omega)
        have hfl := hrow.frozen j
        rw [hf j hj, hwj.out] at hcl
        have hgl : w.heap.size + 2 ≤ g := (o1.low _ rfl).1
        have r2 := rowIs_below rx.out b1 (by omega)
        have u1 := Lib.hid ((box2_below w (.cells #[.slice A n1 c] 53) (.cells #[.slice none 0 0] 53)).trans (b1.mono (by omega)))
        have r3 := Lib.hid (r2.of_block (Below.heap_setCell w1 ⟨g, j, none⟩ (.int .i64 (W + b)) (w.heap.size + 1) (by show w.heap.size + 1 ≠ g; omega)))
        have o2 := Lib.hid (o1.setAt hj (W + b))
        have u2 := Lib.hid (u1.out.setCell (p := ⟨g, j, none⟩) (by show w.heap.size ≤ g; omega) (.int .i64 (W + b)))
        clear r2 b1 o1 hrow hf u1
        have hz2 := Lib.hid (r3.out.lt)
        go_wp2_with (go_at_call 87; refine (l1In_any _ _ _ _).mono ?_; rintro e w' ⟨rfl, rfl⟩)
        refine (l5Of_any _ n1 c1 _ _ o2.out.ints hgg.out hcap1 hcap2).mono ?_
        rintro e w2 ⟨A2, n2, c2, rfl, o3, b3⟩
        have r4 := rowIs_below r3.out b3 hz2.out
        have u3 := Lib.hid (u2.out.trans (b3.mono u2.out.size))
        have hc2 := r4.cell (i := 0) (by omega)
        have hf2 := r4.frozen 0
        have r4' := Lib.hid r4
        have o3' := Lib.hid o3
        clear r4 b3 o3 o2 r3 hcl hfl
        go_wp2_with fail
        refine bodyPost_ret (results_cell_row2 rfl _ _ (w.heap.size + 1) 53 #[.slice A2 n2 c2] (0, 0) _ rfl (row_one_set r4'.out _) Try.underlying53 rfl (by kernel_rfl)) rfl ?_
        refine ⟨A2, n2, c2, by rw [hok.out]; rfl, ?_, u3.out.setCell (by simp) _⟩
        rw [hR.out]
        exact (o3'.out.keep (by simp) (fun ad e => Below.heap_setCell w2 _ _ _ (by have := (o3'.out.low ad e).1; have := hz2.out; show ad.block ≠ w.heap.size + 1; omega))).fewer (by have := u2.out.size; omega)
  · have hok := Lib.hid (show addOk xs k b = false by
      unfold addOk
      rw [hl.out]
      cases hg : goodS xs
      · rfl
      · by_cases hk0 : 0 ≤ k
        · rw [inB_high (n := k) (lo := 0) (hi := (n : Int) - 1)]; rfl
          by_cases hk1 : k < (n : Int)
          · exact absurd ⟨hg, hk0, hk1⟩ hpre
          · omega
        · rw [inB_low (n := k) (lo := 0) (hi := (n : Int) - 1) (by omega)]; rfl)
    have hR := Lib.hid (show addR xs k b = [] by unfold addR; rw [hok.out]; rfl)
    have hcases : goodM xs = false ∨ (goodM xs = true ∧ k < 0) ∨ (goodM xs = true ∧ 0 ≤ k ∧ (n : Int) ≤ k) := by
      rw [hge.out]
      cases hg : goodS xs
      · exact .inl rfl
      · by_cases hk0 : 0 ≤ k
        · by_cases hk1 : k < (n : Int)
          · exact absurd ⟨hg, hk0, hk1⟩ hpre
          · exact .inr (.inr ⟨rfl, hk0, by omega⟩)
        · exact .inr (.inl ⟨rfl, by omega⟩)
    have hB := Lib.hid (show goodM xs = true → backR xs = wts xs from fun e => by unfold backR; rw [e]; rfl)
    clear hpre hge
    rcases hcases with hg | ⟨hg, hk0⟩ | ⟨hg, hk0, hk1⟩
    all_goals
      go_enter Try.func49, Try.ntmps49
      go_wp2_with fail
      refine (l5BackC_any A n c xs _ (hr.out.up (box2_below w _ _)) hn).mono ?_
      rintro e w1 ⟨A1, n1, c1, rfl, o1, b1, _, _⟩
      rw [box2_size] at b1 o1
      have hn1 : Hid (goodM xs = true → n1 = n) := Lib.hid (fun e => by rw [← o1.len, hB.out e, wts_len]; exact hl.out)
      rw [hg] at hn1 ⊢
      have r2 := rowIs_below rx.out b1 (by omega)
      have u1 := Lib.hid ((box2_below w (.cells #[.slice A n c] 53) (.cells #[.slice none 0 0] 53)).trans (b1.mono (by omega)))
      have hc2 := r2.cell (i := 0) (by omega)
      have hf2 := r2.frozen 0
      have r2' := Lib.hid r2
      clear r2 b1 o1
      try (have hn2 := hn1.out rfl; subst hn2)
      go_wp2_with fail
      refine bodyPost_ret (results_cell_row2 rfl _ _ (w.heap.size + 1) 53 #[.slice none 0 0] (0, 0) _ rfl (row_one_set r2'.out _) Try.underlying53 rfl (by kernel_rfl)) rfl ?_
      exact ⟨none, 0, 0, by rw [hok.out]; rfl, by rw [hR.out]; exact own_nil _ _, u1.out.setCell (by simp) _⟩
end Go.Proofs.Ytbhogcecjmlomaa
