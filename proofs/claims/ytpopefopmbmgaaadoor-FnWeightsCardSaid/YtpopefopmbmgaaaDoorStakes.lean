/- What is proved here: what the model's draw of stakes makes: a new slice of at most eleven numbers, and nothing else changes but the cursor's own block. No conditions beside that the cursor is one. -/
import Derived.Test.YtpopefopmbmgaaaDoorDraws
namespace Go.Proofs.YtpopefopmbmgaaaDoor
open Go.RowKit

theorem own_only {w1 w2 : World} {g B n : Nat} {v : Value} {ys : List Value} (h : w1.ownsRow B 3 1 v n ys) (o : Only (some ⟨g, 0, none⟩) w1 w2) (hg : g < B) : w2.ownsRow B 3 1 v n ys :=
  h.kept (row := some g) ⟨o.os, o.tape, o.output, by rw [o.size]; exact Nat.le_refl _, fun i _ hi => o.block i (fun ad e => by cases e; exact fun he => hi (by rw [he]))⟩ (by
    rcases hq : v.ownBlock with _ | q
    · exact .inl rfl
    · right; have := (h.lt q hq).1; intro e; cases e; omega)
theorem owns_cap' {w : World} {B : Nat} {v : Value} {n : Nat} {xs : List Value} (h : w.ownsRow B 3 1 v n xs) : ∀ A m c, v = .slice A m c → m ≤ c ∧ c ≤ maxLen := by
  intro A m c e
  rcases h.2 with ⟨rfl, _⟩ | ⟨g, cap, cur, rfl, _, _, h1, h2, _⟩
  · cases e; exact ⟨Nat.le_refl _, Nat.zero_le _⟩
  · cases e; exact ⟨h1, h2⟩
theorem three_ints (w : World) (x y z : Int) (t : TypeId) : IntsAt (w.alloc (.cells #[.int .i64 x, .int .i64 y, .int .i64 z] t)) (w.heap.size + 1) (some ⟨w.heap.size, 0, none⟩) 3 [x, y, z] :=
  ⟨rfl, fun k hk => ⟨w.heap.size, 0, rfl, Nat.lt_succ_self _, by
    have : k = 0 ∨ k = 1 ∨ k = 2 := by omega
    rcases this with rfl | rfl | rfl <;> simp⟩⟩
theorem own_set0 {w : World} {B n q : Nat} {xs : List Int} {v : Int} (h : OwnAt w B (some ⟨q, 0, none⟩) n xs) (hn : 0 < n) : OwnAt (w.setCell ⟨q, 0, none⟩ (.int .i64 v)) B (some ⟨q, 0, none⟩) n (xs.set 0 v) := by
  obtain ⟨q', m, f, e, hm, hr, hf⟩ := h.own hn
  cases e
  refine ⟨by rw [List.length_set]; exact h.len, fun _ => ⟨q, m, _, rfl, hm, hr.set 0 (.int .i64 v), fun i hi => ?_⟩, fun ad e => ⟨(h.low ad e).1, by simpa [World.setCell] using (h.low ad e).2⟩⟩
  by_cases e : i = 0
  · subst e
    have hl := h.len
    cases xs with
    | nil => simp at hl; omega
    | cons x xs => simp
  · simp only [e, if_false]
    rw [hf i hi, List.getElem?_set_ne (by omega)]

set_option maxHeartbeats 6400000 in
set_option maxRecDepth 100000 in
theorem stakes_small (g B lim : Nat) (w : World) (h : CurOk w g B lim) (hB : B ≤ w.heap.size) (hlim : lim ≤ 274877906944) :
    Calls Tryd.prog 48 #[.pointer (some ⟨g, 0, none⟩)] w (StakesPost2 w g B lim) := by
  obtain ⟨i0, hi0, hz0, hz1, hz2⟩ := info_parts info3
  have hgB := h.1
  go_enter Tryd.func48, Tryd.ntmps48
  go_wp2_with fail
  refine (pick_any g B lim 6 w h (by omega) (by decide)).mono ?_
  rintro e wa ⟨x, rfl, x0, x1, ca, oa⟩
  have x2 : x < 6 := by omega
  clear x1
  go_wp2_with fail
  refine (one_any g B (lim + 2) 40 wa ca (by omega) (by decide)).mono ?_
  rintro e wb ⟨b, rfl, cb, ob⟩
  have oab := oa.trans ob
  clear ca h oa ob
  cases b
  · obtain ⟨r0, hr0e⟩ : ∃ r0 : Nat, 1 + x = (r0 : Int) := ⟨(1 + x).toNat, by omega⟩
    have hr0 : r0 ≤ 11 := by omega
    rw [hr0e]
    have cS : CurOk wb g B (lim + 6 + 2 * ([] : List Int).length) := cb.more (by simp)
    have grewS : Grew g w.heap.size w wb := Grew.of_only oab
    clear hr0e x0 x2 cb oab
    go_wp2
    go_loopw [3, 4] (fun v i wr => ∃ (r : Nat) (xs : List Int), xs.length + r ≤ 11 ∧ i = .int .i64 (r : Int) ∧ wr.ownsRow w.heap.size 3 1 v xs.length (xs.map (Value.int .i64)) ∧ CurOk wr g B (lim + 6 + 2 * xs.length) ∧ Grew g w.heap.size w wr ∧ Hid (Small xs)) (fun _ i _ => (intOf i).toNat)
    case atStart => exact ⟨r0, [], by simpa using hr0, rfl, World.ownsRow_nil _ _ _ _, cS, grewS, Lib.hid small_nil⟩
    case round =>
      obtain ⟨r, xs, hr, rfl, hown, hcur, hgrew, hsm⟩ := hrel
      by_cases hlt : 0 < r
      · have hlt' : (0 : Int) < (r : Int) := by omega
        have hown' := Lib.hid hown; clear hown
        go_wp2_with fail
        refine (pick_any g B (lim + 6 + 2 * xs.length) 9 wr hcur (by omega) (by decide)).mono ?_
        rintro e w1 ⟨x, rfl, x0, x1, c1, o1⟩
        have x2 : x < 9 := by omega
        have own1 : w1.ownsRow w.heap.size 3 1 _ xs.length (xs.map (Value.int .i64)) := own_only hown'.out o1 (by have := hgB; omega)
        have grew1 : Grew g w.heap.size w w1 := hgrew.trans (Grew.of_only o1)
        have hs1 : w.heap.size ≤ w1.heap.size := grew1.size
        clear o1 hown' hgrew hcur x1
        go_wp2_with (at_builtin; refine wpList_append_own _ rfl _ _ 23 rfl w.heap.size 3 i0 (.int .i64 0) 1 8 Tryd.underlying23 hi0 hz0 hz1 hz2 rfl (by decide) _ _ _ rfl (own1.alloc _) ⟨w1.heap.size, 0, none⟩ 1 1 [.int .i64 (1 + x)] rfl rfl ?c1 ?c2 ?c3 ?c4 ?c5 ?_)
        case c1 =>
          intro j u hj
          match j, hj with
          | 0, hj => simp at hj; subst hj; simp [Addr.add]
        case c2 => intro u hu; simp at hu; subst hu; rfl
        case c3 => unfold maxLen; omega
        case c4 => omega
        case c5 => simp; omega
        intro v' w2 own2 hgrow _
        have bel2 : Below w.heap.size w1 w2 := ((Below.refl _ _).alloc hs1 _).grown hgrow (by simp; omega) (fun q hq => (own1.lt q hq).1)
        have own2' := Lib.hid own2
        have c2 : CurOk w2 g B (lim + 6 + 2 * xs.length + 2) := c1.below (bel2.mono hB)
        have grew2 := grew1.trans (Grew.of_below bel2)
        clear own2 hgrow own1 c1 grew1
        go_wp2
        go_roundw
        case rel =>
          refine ⟨r - 1, xs ++ [1 + x], by simp; omega, by congr 1; omega, ?_, c2.more (by simp; omega), grew2, Lib.hid (small_add hsm.out (by omega) (by omega))⟩
          have := own2'.out
          simpa using this
        case measure => simp [intOf]; omega
      · have hlt' : ¬ (0 : Int) < (r : Int) := by omega
        have hcap := owns_cap' hown
        obtain ⟨A, c, rfl, hoa⟩ := OwnAt.of_owns hown
        obtain ⟨hc1, hc2⟩ := hcap A _ c rfl
        clear hown hcap
        by_cases hpos : 0 < xs.length
        · obtain ⟨q, m, f, rfl, hm, hrow, hf⟩ := hoa.own hpos
          have hqB := (hoa.low _ rfl).1
          have hpos' : (0 : Int) < (xs.length : Int) := by omega
          have hrow' := Lib.hid hrow; clear hrow
          have hf' := Lib.hid hf; clear hf
          have hoa' := Lib.hid hoa; clear hoa
          go_wp2_with fail
          refine (one_any g B (lim + 6 + 2 * xs.length) 20 wr hcur (by omega) (by decide)).mono ?_
          rintro e w1 ⟨b, rfl, c1, o1⟩
          have grew1 : Grew g w.heap.size w w1 := hgrew.trans (Grew.of_only o1)
          have own1 : OwnAt w1 w.heap.size (some ⟨q, 0, none⟩) xs.length xs := hoa'.out.only o1 (fun ad ad' e e' => by cases e; cases e'; exact Nat.ne_of_gt (Nat.lt_of_lt_of_le hgB (Nat.le_trans hB hqB)))
          clear o1 hcur hgrew hrow' hf' hoa'
          cases b
          · have own1' := Lib.hid own1; clear own1
            go_wp2
            go_ret
            exact ⟨_, _, c, xs, rfl, own1'.out, by omega, hc1, hc2, c1.more (by omega), grew1, hsm⟩
          · have hs1 : w.heap.size ≤ w1.heap.size := grew1.size
            have own1' := Lib.hid own1; clear own1
            go_wp2_with fail
            refine (among_any g B (lim + 6 + 2 * xs.length + 2) 3 3 (w1.heap.size + 1) _ [0, 1000, 1001] _ (c1.below (((Below.refl _ _).alloc (Nat.le_trans hB hs1) _))) (by omega) (three_ints w1 0 1000 1001 3) (by decide) (by decide) (fun ad e => by cases e; exact Nat.ne_of_gt (Nat.lt_of_lt_of_le hgB (Nat.le_trans hB hs1)))).mono ?_
            rintro e w2 ⟨j, hj, rfl, c2, o2⟩
            have own2 : OwnAt w2 w.heap.size (some ⟨q, 0, none⟩) xs.length xs := (own1'.out.below ((Below.refl _ _).alloc (Nat.le_refl _) _)).only o2 (fun ad ad' e e' => by cases e; cases e'; exact Nat.ne_of_gt (Nat.lt_of_lt_of_le hgB (Nat.le_trans hB hqB)))
            have grew2 : Grew g w.heap.size w w2 := (grew1.alloc hs1 _).trans (Grew.of_only o2)
            clear o2 own1' c1 grew1
            obtain ⟨q', m', f', e', hm', hrow2, hf2⟩ := own2.own hpos
            cases e'
            have hd := hrow2.cell (i := 0) (by omega)
            have hfz := hrow2.frozen 0
            have hsm2 := Lib.hid (small_set hsm.out (three_bd hj).1 (three_bd hj).2)
            have own3 := Lib.hid (own_set0 (v := [0, 1000, 1001][j]?.getD 0) own2 hpos)
            have c3 : CurOk (w2.setCell ⟨q, 0, none⟩ (.int .i64 ([0, 1000, 1001][j]?.getD 0))) g B (lim + 100) := (c2.more (by omega)).below ((Below.refl _ _).setCell (Nat.le_trans hB hqB) _)
            have grew3 : Grew g w.heap.size w (w2.setCell ⟨q, 0, none⟩ (.int .i64 ([0, 1000, 1001][j]?.getD 0))) := grew2.trans (Grew.of_below ((Below.refl _ _).setCell hqB _))
            clear hrow2 hf2 own2
            have c3' := Lib.hid c3; clear c3
            have grew3' := Lib.hid grew3; clear grew3
            generalize hgen : ([0, 1000, 1001] : List Int)[j]?.getD 0 = z at *
            clear hgen
            go_wp2
            go_ret
            exact ⟨_, _, c, _, rfl, own3.out, by omega, hc1, hc2, c3'.out, grew3'.out, hsm2⟩
        · have hpos' : ¬ (0 : Int) < (xs.length : Int) := by omega
          have hoa' := Lib.hid hoa; clear hoa
          go_wp2
          go_ret
          exact ⟨A, _, c, xs, rfl, hoa'.out, by omega, hc1, hc2, hcur.more (by omega), hgrew, hsm⟩
  · have hsb : w.heap.size ≤ wb.heap.size := by rw [oab.size]; exact Nat.le_refl _
    go_wp2_with fail
    refine (among_any g B (lim + 2 + 2) 3 3 (wb.heap.size + 1) _ [0, 10, 11] _ (cb.below (((Below.refl _ _).alloc (by omega) _))) (by omega) (three_ints wb 0 10 11 3) (by decide) (by decide) (fun ad e => by cases e; simp; omega)).mono ?_
    rintro e wc ⟨j, hj, rfl, cc, oc⟩
    obtain ⟨r0, hr0e, hr0⟩ : ∃ r0 : Nat, ([0, 10, 11] : List Int)[j]?.getD 0 = (r0 : Int) ∧ r0 ≤ 11 := by
      have : j = 0 ∨ j = 1 ∨ j = 2 := by omega
      rcases this with rfl | rfl | rfl
      · exact ⟨0, rfl, by decide⟩
      · exact ⟨10, rfl, by decide⟩
      · exact ⟨11, rfl, by decide⟩
    rw [hr0e]
    have cS : CurOk wc g B (lim + 6 + 2 * ([] : List Int).length) := cc.more (by simp)
    have grewS : Grew g w.heap.size w wc := ((Grew.of_only oab).alloc (by omega) _).trans (Grew.of_only oc)
    clear hr0e x0 x2 cb oab cc oc hj hsb
    go_wp2
    go_loopw [3, 4] (fun v i wr => ∃ (r : Nat) (xs : List Int), xs.length + r ≤ 11 ∧ i = .int .i64 (r : Int) ∧ wr.ownsRow w.heap.size 3 1 v xs.length (xs.map (Value.int .i64)) ∧ CurOk wr g B (lim + 6 + 2 * xs.length) ∧ Grew g w.heap.size w wr ∧ Hid (Small xs)) (fun _ i _ => (intOf i).toNat)
    case atStart => exact ⟨r0, [], by simpa using hr0, rfl, World.ownsRow_nil _ _ _ _, cS, grewS, Lib.hid small_nil⟩
    case round =>
      obtain ⟨r, xs, hr, rfl, hown, hcur, hgrew, hsm⟩ := hrel
      by_cases hlt : 0 < r
      · have hlt' : (0 : Int) < (r : Int) := by omega
        have hown' := Lib.hid hown; clear hown
        go_wp2_with fail
        refine (pick_any g B (lim + 6 + 2 * xs.length) 9 wr hcur (by omega) (by decide)).mono ?_
        rintro e w1 ⟨x, rfl, x0, x1, c1, o1⟩
        have x2 : x < 9 := by omega
        have own1 : w1.ownsRow w.heap.size 3 1 _ xs.length (xs.map (Value.int .i64)) := own_only hown'.out o1 (by have := hgB; omega)
        have grew1 : Grew g w.heap.size w w1 := hgrew.trans (Grew.of_only o1)
        have hs1 : w.heap.size ≤ w1.heap.size := grew1.size
        clear o1 hown' hgrew hcur x1
        go_wp2_with (at_builtin; refine wpList_append_own _ rfl _ _ 23 rfl w.heap.size 3 i0 (.int .i64 0) 1 8 Tryd.underlying23 hi0 hz0 hz1 hz2 rfl (by decide) _ _ _ rfl (own1.alloc _) ⟨w1.heap.size, 0, none⟩ 1 1 [.int .i64 (1 + x)] rfl rfl ?c1 ?c2 ?c3 ?c4 ?c5 ?_)
        case c1 =>
          intro j u hj
          match j, hj with
          | 0, hj => simp at hj; subst hj; simp [Addr.add]
        case c2 => intro u hu; simp at hu; subst hu; rfl
        case c3 => unfold maxLen; omega
        case c4 => omega
        case c5 => simp; omega
        intro v' w2 own2 hgrow _
        have bel2 : Below w.heap.size w1 w2 := ((Below.refl _ _).alloc hs1 _).grown hgrow (by simp; omega) (fun q hq => (own1.lt q hq).1)
        have own2' := Lib.hid own2
        have c2 : CurOk w2 g B (lim + 6 + 2 * xs.length + 2) := c1.below (bel2.mono hB)
        have grew2 := grew1.trans (Grew.of_below bel2)
        clear own2 hgrow own1 c1 grew1
        go_wp2
        go_roundw
        case rel =>
          refine ⟨r - 1, xs ++ [1 + x], by simp; omega, by congr 1; omega, ?_, c2.more (by simp; omega), grew2, Lib.hid (small_add hsm.out (by omega) (by omega))⟩
          have := own2'.out
          simpa using this
        case measure => simp [intOf]; omega
      · have hlt' : ¬ (0 : Int) < (r : Int) := by omega
        have hcap := owns_cap' hown
        obtain ⟨A, c, rfl, hoa⟩ := OwnAt.of_owns hown
        obtain ⟨hc1, hc2⟩ := hcap A _ c rfl
        clear hown hcap
        by_cases hpos : 0 < xs.length
        · obtain ⟨q, m, f, rfl, hm, hrow, hf⟩ := hoa.own hpos
          have hqB := (hoa.low _ rfl).1
          have hpos' : (0 : Int) < (xs.length : Int) := by omega
          have hrow' := Lib.hid hrow; clear hrow
          have hf' := Lib.hid hf; clear hf
          have hoa' := Lib.hid hoa; clear hoa
          go_wp2_with fail
          refine (one_any g B (lim + 6 + 2 * xs.length) 20 wr hcur (by omega) (by decide)).mono ?_
          rintro e w1 ⟨b, rfl, c1, o1⟩
          have grew1 : Grew g w.heap.size w w1 := hgrew.trans (Grew.of_only o1)
          have own1 : OwnAt w1 w.heap.size (some ⟨q, 0, none⟩) xs.length xs := hoa'.out.only o1 (fun ad ad' e e' => by cases e; cases e'; exact Nat.ne_of_gt (Nat.lt_of_lt_of_le hgB (Nat.le_trans hB hqB)))
          clear o1 hcur hgrew hrow' hf' hoa'
          cases b
          · have own1' := Lib.hid own1; clear own1
            go_wp2
            go_ret
            exact ⟨_, _, c, xs, rfl, own1'.out, by omega, hc1, hc2, c1.more (by omega), grew1, hsm⟩
          · have hs1 : w.heap.size ≤ w1.heap.size := grew1.size
            have own1' := Lib.hid own1; clear own1
            go_wp2_with fail
            refine (among_any g B (lim + 6 + 2 * xs.length + 2) 3 3 (w1.heap.size + 1) _ [0, 1000, 1001] _ (c1.below (((Below.refl _ _).alloc (Nat.le_trans hB hs1) _))) (by omega) (three_ints w1 0 1000 1001 3) (by decide) (by decide) (fun ad e => by cases e; exact Nat.ne_of_gt (Nat.lt_of_lt_of_le hgB (Nat.le_trans hB hs1)))).mono ?_
            rintro e w2 ⟨j, hj, rfl, c2, o2⟩
            have own2 : OwnAt w2 w.heap.size (some ⟨q, 0, none⟩) xs.length xs := (own1'.out.below ((Below.refl _ _).alloc (Nat.le_refl _) _)).only o2 (fun ad ad' e e' => by cases e; cases e'; exact Nat.ne_of_gt (Nat.lt_of_lt_of_le hgB (Nat.le_trans hB hqB)))
            have grew2 : Grew g w.heap.size w w2 := (grew1.alloc hs1 _).trans (Grew.of_only o2)
            clear o2 own1' c1 grew1
            obtain ⟨q', m', f', e', hm', hrow2, hf2⟩ := own2.own hpos
            cases e'
            have hd := hrow2.cell (i := 0) (by omega)
            have hfz := hrow2.frozen 0
            have hsm2 := Lib.hid (small_set hsm.out (three_bd hj).1 (three_bd hj).2)
            have own3 := Lib.hid (own_set0 (v := [0, 1000, 1001][j]?.getD 0) own2 hpos)
            have c3 : CurOk (w2.setCell ⟨q, 0, none⟩ (.int .i64 ([0, 1000, 1001][j]?.getD 0))) g B (lim + 100) := (c2.more (by omega)).below ((Below.refl _ _).setCell (Nat.le_trans hB hqB) _)
            have grew3 : Grew g w.heap.size w (w2.setCell ⟨q, 0, none⟩ (.int .i64 ([0, 1000, 1001][j]?.getD 0))) := grew2.trans (Grew.of_below ((Below.refl _ _).setCell hqB _))
            clear hrow2 hf2 own2
            have c3' := Lib.hid c3; clear c3
            have grew3' := Lib.hid grew3; clear grew3
            generalize hgen : ([0, 1000, 1001] : List Int)[j]?.getD 0 = z at *
            clear hgen
            go_wp2
            go_ret
            exact ⟨_, _, c, _, rfl, own3.out, by omega, hc1, hc2, c3'.out, grew3'.out, hsm2⟩
        · have hpos' : ¬ (0 : Int) < (xs.length : Int) := by omega
          have hoa' := Lib.hid hoa; clear hoa
          go_wp2
          go_ret
          exact ⟨A, _, c, xs, rfl, hoa'.out, by omega, hc1, hc2, hcur.more (by omega), hgrew, hsm⟩
theorem stakes_any (g B lim : Nat) (w : World) (h : CurOk w g B lim) (hB : B ≤ w.heap.size) (hlim : lim ≤ 274877906944) :
    Calls Tryd.prog 48 #[.pointer (some ⟨g, 0, none⟩)] w (StakesPost w g B lim) :=
  (stakes_small g B lim w h hB hlim).mono fun _ _ ⟨A, n, c, xs, h1, h2, h3, h4, h5, h6, h7, _⟩ => ⟨A, n, c, xs, h1, h2, h3, h4, h5, h6, h7⟩
end Go.Proofs.YtpopefopmbmgaaaDoor
