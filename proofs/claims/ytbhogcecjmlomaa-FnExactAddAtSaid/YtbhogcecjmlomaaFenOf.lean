/- What is proved here: what the model's l5Of returns at every list of weights. No conditions but that. -/
import Derived.Test.YtbhogcecjmlomaaFenModel2
import Derived.Test.YtbhogcecjmlomaaFenMake
namespace Go.Proofs.Ytbhogcecjmlomaa
open Go.RowKit

def ofTo (xs : List Int) (k : Nat) : List Int := (List.range k).map fun k => sumL (xs.take (k + 1)) - sumL (xs.take (k + 1 - low (k + 1)))
theorem ofTo_step (xs : List Int) (k : Nat) : ofTo xs (k + 1) = ofTo xs k ++ [sumL (xs.take (k + 1)) - sumL (xs.take (k + 1 - low (k + 1)))] := by simp [ofTo, List.range_succ]
/-- The same memory. -/
structure SameH (w w' : World) : Prop where
  os : w'.os = w.os
  tape : w'.tape = w.tape
  output : w'.output = w.output
  heap : w'.heap = w.heap
theorem SameH.below {w w' : World} (h : SameH w w') (B : Nat) : Below B w w' := ⟨h.os, h.tape, h.output, by rw [h.heap]; exact Nat.le_refl _, fun k _ => by rw [h.heap]⟩
theorem SameH.owns {w w' : World} (h : SameH w w') {base : Nat} {e : TypeId} {size : Nat} {v : Value} {n : Nat} {xs : List Value} (ho : w.ownsRow base e size v n xs) : w'.ownsRow base e size v n xs := by
  unfold World.ownsRow at ho ⊢
  rw [h.heap]; exact ho
theorem SameH.row {w w' : World} (h : SameH w w') {g : Nat} {t : TypeId} {n : Nat} {f : Nat → Value} (hr : w.rowIs g t n f) : w'.rowIs g t n f := hr.of_block (by rw [h.heap])
theorem sumPartS_any (A : Option Addr) (n c B : Nat) (ys : List Int) (w : World) (h : IntsAt w B A n ys) (hn : n ≤ 1048576) (hb : ∀ k, k ≤ n → -1000000000 ≤ sumL (ys.take k) ∧ sumL (ys.take k) ≤ 1000000000) :
    Calls Try.prog 118 #[.slice A n c] w.drew fun e w' => ∃ s : Int, e = .returned (.int .i64 s) ∧ Hid (s = sumL ys) ∧ -1000000000 ≤ s ∧ s ≤ 1000000000 ∧ SameH w w' := by
  refine (sumPart_any A n c B ys w.drew ⟨h.1, h.2⟩ hn hb).mono ?_
  rintro e w' ⟨s, rfl, hs, s0, s1, rfl⟩
  exact ⟨s, rfl, hs, s0, s1, ⟨rfl, rfl, rfl, rfl⟩⟩

theorem row_one_of {w : World} {g : Nat} {t : TypeId} {v : Value} (h : w.heap[g]? = some (.cells #[v] t (0, 0))) : w.rowIs g t 1 (fun _ => v) :=
  ⟨#[v], h, rfl, fun i hi => by
    have hi0 : i = 0 := by omega
    subst hi0; rfl⟩
theorem owns_set {w : World} {base : Nat} {e : TypeId} {size : Nat} {v : Value} {n : Nat} {xs : List Value} (h : w.ownsRow base e size v n xs) {g : Nat} (hg : g < base) (u : Value) : (w.setCell ⟨g, 0, none⟩ u).ownsRow base e size v n xs := by
  obtain ⟨h1, h2⟩ := h
  refine ⟨h1, ?_⟩
  rcases h2 with h2 | ⟨g', cap, cur, q1, q2, q3, q4⟩
  · exact .inl h2
  · exact .inr ⟨g', cap, cur, q1, q2, (Below.heap_setCell w ⟨g, 0, none⟩ u g' (by show g' ≠ g; omega)).trans q3, q4⟩

set_option maxRecDepth 100000 in
set_option maxHeartbeats 3200000 in
theorem l5Of_any (A : Option Addr) (n c : Nat) (xs : List Int) (w : World) (h : IntsAt w w.heap.size A n xs) (hg : goodW xs = true) (hc1 : n ≤ c) (hc2 : c ≤ maxLen) :
    Calls Try.prog 110 #[.slice A n c] w fun e w' => ∃ A' n' c', e = .returned (.agg #[.slice A' n' c']) ∧ OwnAt w' w.heap.size A' n' (ofL xs) ∧ Below w.heap.size w w' := by
  have hl := Lib.hid h.1
  obtain ⟨q1, q2⟩ := goodW_iff.1 hg
  rw [hl.out] at q1
  obtain ⟨hn1, hn32⟩ := q1
  have hbd := Lib.hid (show ∀ k, k ≤ xs.length → (0 : Int) ≤ sumL (xs.take k) ∧ sumL (xs.take k) ≤ 3200000 from fun k hk => by
    have h1 := sum_bd q2 k 0 (by omega)
    rw [Nat.zero_add] at h1
    have h2 : sumL (xs.take 0) = 0 := by simp [sumL]
    rw [hl.out] at hk
    omega)
  have hr := Lib.hid h; clear h hg q2
  unfold maxLen at hc2
  obtain ⟨i0, hi0, hz0, hz1, hz2⟩ := info_parts info3
  obtain ⟨ab, ao, rfl, _, _⟩ := hr.out.2 0 (by omega)
  go_enter Try.func110, Try.ntmps110
  go_wp2_with fail
  go_loopw [9] (fun i wr => ∃ k : Nat, k ≤ n ∧ i = .int .i64 k ∧ wr.rowIs w.heap.size 53 1 (fun _ => .slice none 0 0) ∧ ∃ v, wr.rowIs (w.heap.size + 1) 53 1 (fun _ => v) ∧ wr.ownsRow (w.heap.size + 2) 3 1 v k ((ofTo xs k).map (Value.int .i64)) ∧ Below w.heap.size w wr) (fun i _ => n - (intOf i).toNat)
  case atStart => exact ⟨0, Nat.zero_le _, rfl, (row_box2 w _ _ _).1, _, (row_box2 w _ _ _).2, World.ownsRow_nil _ _ _ _, box2_below w _ _⟩
  case round =>
    obtain ⟨k, hk, rfl, r2, v, r3, hown, hbl⟩ := hrel
    have r2' := Lib.hid r2; have r3' := Lib.hid r3; have hown' := Lib.hid hown; have hbl' := Lib.hid hbl
    have hsz : w.heap.size + 2 ≤ wr.heap.size := r3.lt
    have hcB := r3.cell (i := 0) (by omega)
    clear r2 r3 hown hbl
    by_cases hlt : k < n
    · have p1 := low_pos (n := k + 1) (by omega) (by omega)
      have p2 := low_le (n := k + 1) (by omega) (by omega)
      have ha := and_low' k (by omega)
      obtain ⟨L, hL⟩ : ∃ L, Hid (low (k + 1) = L) := ⟨_, Lib.hid rfl⟩
      rw [hL.out] at p1 p2 ha
      obtain ⟨lo, hlo⟩ : ∃ lo, Hid (k + 1 = lo + L) := ⟨k + 1 - L, Lib.hid (by omega)⟩
      have hlo1 : (k : Int) + 1 - (L : Int) = (lo : Int) := by have := hlo.out; omega
      have hlok : lo ≤ k := by have := hlo.out; omega
      have hpart := Lib.hid (show IntsAt wr w.heap.size (some ⟨ab, ao + lo, none⟩) (k + 1 - lo) ((xs.take (k + 1)).drop lo) from (hr.out.part (i := lo) (j := k + 1) (by omega) (by omega)).below hbl'.out)
      have hpb := Lib.hid (sums_part xs lo (k + 1) (by omega) (by rw [hl.out]; omega) hbd.out)
      have hv := Lib.hid (show sumL ((xs.take (k + 1)).drop lo) = sumL (xs.take (k + 1)) - sumL (xs.take (k + 1 - low (k + 1))) by
        rw [sum_part _ (by omega), hL.out, show k + 1 - L = lo by have := hlo.out; omega])
      have hwl : IntKind.i64.wrap (lo : Int) = (lo : Int) := by rw [IntKind.wrap_i64]; omega
      have hA0 : (0 : Int) ≤ (k : Int) + 1 := by omega
      have hA1 : (k : Int) + 1 ≤ (c : Int) := by omega
      have hB1 : (lo : Int) ≤ (k : Int) + 1 := by omega
      have hne : ¬ c = lo := by omega
      go_wp2_with fail
      go_region_law (first
        | (refine step_append_lies _ rfl (.tmp 19) (.tmp 27) 31 rfl (w.heap.size + 2) 3 i0 (.int .i64 0) 1 8 Try.underlying31 hi0 hz0 hz1 hz2 rfl (by decide) v k _ rfl (hx7.out.alloc _) ⟨w7.heap.size, 0, none⟩ 1 1 _ rfl rfl (World.news_of_block (heap_alloc_new _ _)) (by intro u hu; simp at hu; subst hu; rfl) (by decide) (by unfold maxLen; omega) (by omega) (by have := hs7.out; simp; omega) _ rfl ?_
           intro g8 cap8 w8 hown8 hgrow8 _ _
           have hb8 := Lib.hid (((Below.refl (w.heap.size + 2) w7).alloc hs7.out _).grown hgrow8 (by have := hs7.out; simp; omega) (fun g hg => (hx7.out.lt g hg).1))
           have hcB8 := (rowIs_below hq7.out hb8.out (by omega)).cell (i := 0) (by omega)
           have hfB8 := (rowIs_below hq7.out hb8.out (by omega)).frozen 0
           have hown8' := Lib.hid hown8
           clear hown8 hgrow8)
        | (go_simp
           go_at_call 118
           refine (sumPartS_any _ (k + 1 - lo) _ w.heap.size _ wr hpart.out (by omega) (fun j hj => by have := hpb.out j hj; omega)).mono ?_
           rintro e w7 ⟨s, rfl, hs, s0, s1, same7⟩
           have hx7 := Lib.hid (same7.owns hown'.out)
           have hq7 := Lib.hid (same7.row r3'.out)
           have hcB7 := hq7.out.cell (i := 0) (by omega)
           have hcB7a := (rowIs_below hq7.out (box_below w7 (.cells #[.int .i64 s] 3)) (by rw [same7.heap]; omega)).cell (i := 0) (by omega)
           have hs7 := Lib.hid (show w.heap.size + 2 ≤ w7.heap.size by rw [same7.heap]; exact hsz)
           have sm7 := Lib.hid same7
           clear same7))
      all_goals
        go_simp
        go_wp2_with fail
        go_roundw
        case rel =>
          refine ⟨k + 1, by omega, by go_num, ?_, .slice (some ⟨g8, 0, none⟩) (k + 1) cap8, ?_, ?_, ?_⟩
          · exact (rowIs_below (sm7.out.row r2'.out) hb8.out (by omega)).of_block (Below.heap_setCell w8 ⟨w.heap.size + 1, 0, none⟩ _ w.heap.size (by show w.heap.size ≠ w.heap.size + 1; omega))
          · exact row_one_of (row_one_set (rowIs_below hq7.out hb8.out (by omega)) _)
          · have := owns_set hown8'.out (g := w.heap.size + 1) (by omega) (.slice (some ⟨g8, 0, none⟩) (k + 1) cap8)
            rw [ofTo_step, List.map_append, ← hv.out, ← hs.out]
            exact this
          · exact (hbl'.out.trans ((sm7.out.below w.heap.size).trans (hb8.out.mono (by omega)))).setCell (by show w.heap.size ≤ w.heap.size + 1; omega) _
        case measure => simp [intOf]; omega
    · have hkn : k = n := by omega
      have hc2 := r2'.out.cell (i := 0) (by omega)
      have hf2 := r2'.out.frozen 0
      have hkn' := Lib.hid hkn
      clear hkn
      obtain ⟨A', c', rfl, oa0⟩ := OwnAt.of_owns hown'.out
      have oa' := Lib.hid oa0
      clear oa0
      go_wp2_with fail
      refine bodyPost_ret (results_cell_row rfl _ _ w.heap.size 53 #[.slice A' k c'] (0, 0) _ rfl (row_one_set r2'.out _) Try.underlying53 rfl (by kernel_rfl)) rfl ?_
      have oa := oa'.out
      have hof : ofTo xs k = ofL xs := by unfold ofTo ofL; rw [hkn'.out, hl.out]
      rw [hof] at oa
      exact ⟨A', k, c', rfl, (oa.keep (by simp) (fun ad e => Below.heap_setCell wr _ _ _ (by have := (oa.low ad e).1; show ad.block ≠ w.heap.size; omega))).fewer (by omega), hbl'.out.setCell (by simp) _⟩

set_option maxRecDepth 100000 in
theorem specSumsOf_any (A : Option Addr) (n c : Nat) (xs : List Int) (w : World) (h : IntsAt w w.heap.size A n xs) (hn : n ≤ 1048576) (hc1 : n ≤ c) (hc2 : c ≤ maxLen) :
    Calls Try.prog 42 #[.slice A n c] w (RetSums w (goodW xs) (sumsR xs)) := by
  have hr := Lib.hid h; clear h
  cases hg : goodW xs
  · have hR := Lib.hid (show sumsR xs = [] by unfold sumsR; rw [hg]; rfl)
    go_enter Try.func42, Try.ntmps42
    go_wp2_with fail
    refine (l5List_any A n c w.heap.size xs _ (hr.out.below (box_below w _)) hn).mono ?_
    rintro e w' ⟨rfl, rfl⟩
    go_wp2_with fail
    refine bodyPost_ret (results_cell_row2 rfl _ _ w.heap.size 53 #[.slice none 0 0] (0, 0) _ rfl (heap_alloc_new _ _) Try.underlying53 rfl (by kernel_rfl)) rfl ?_
    exact ⟨none, 0, 0, rfl, by rw [hR.out]; exact own_nil _ _, box_below w _⟩
  · have hR := Lib.hid (show sumsR xs = ofL xs by unfold sumsR; rw [hg]; rfl)
    have hg' := Lib.hid hg
    go_enter Try.func42, Try.ntmps42
    go_wp2_with fail
    refine (l5List_any A n c w.heap.size xs _ (hr.out.below (box_below w _)) hn).mono ?_
    rintro e w' ⟨rfl, rfl⟩
    go_wp2_with fail
    refine (l5Of_any A n c xs _ (hr.out.box _) hg'.out hc1 hc2).mono ?_
    rintro e w1 ⟨A1, n1, c1, rfl, o1, b1⟩
    have z1 := rowIs_below (row_box w (.slice none 0 0) 53) b1 (by simp)
    have u1 := Lib.hid ((box_below w (.cells #[.slice none 0 0] 53)).trans (b1.mono (box_below w _).size))
    have o1' := Lib.hid o1
    have hcz := z1.cell (i := 0) (by omega)
    have hfz := z1.frozen 0
    have z1' := Lib.hid z1
    clear z1 b1 o1
    go_wp2_with fail
    refine bodyPost_ret (results_cell_row2 rfl _ _ w.heap.size 53 #[.slice A1 n1 c1] (0, 0) _ rfl (row_one_set z1'.out _) Try.underlying53 rfl (by kernel_rfl)) rfl ?_
    refine ⟨A1, n1, c1, rfl, ?_, u1.out.setCell (by simp) _⟩
    rw [hR.out]
    exact (o1'.out.keep (by simp) (fun ad e => Below.heap_setCell w1 _ _ _ (by have := (o1'.out.low ad e).1; simp at this; show ad.block ≠ w.heap.size; omega))).fewer (by simp)
end Go.Proofs.Ytbhogcecjmlomaa
