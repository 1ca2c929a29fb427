/- What is proved here: what the program's votersInOrder returns: the keys of a map of votes, sorted. No conditions but the map's size. -/
import Derived.Test.YtlobjfipefibaaaLatestMap
import Derived.Sort.OwnSortedInts
namespace Go.Proofs.Ytlobjfipefibaaa
open Go.RowKit Go.Maps Go.Sort

theorem same_int (x y : Int) : (Lit.int .i64 x).sameKey (.int .i64 y) = decide (x = y) := by
  by_cases h : x = y
  · subst h; simp [Lit.sameKey]
  · rw [sameKey_ne (fun e => h (by injection e)), decide_eq_false h]

/-- What has been collected: each key once, and just those that are no longer to come. -/
def Coll1 (D : DataW Unit) (left : Lit → Bool) (ss : List Int) : Prop := ss.Nodup ∧ (∀ x, x ∈ ss ↔ (Maps.has D (.int .i64 x) = true ∧ left (.int .i64 x) = false)) ∧ ∀ x, left (.int .i64 x) = true → Maps.has D (.int .i64 x) = true
theorem coll_start (D : DataW Unit) : Coll1 D (Maps.has D) [] := ⟨List.nodup_nil, fun x => by cases Maps.has D (.int .i64 x) <;> simp, fun _ h => h⟩
theorem coll_step {D : DataW Unit} {left : Lit → Bool} {ss : List Int} (h : Coll1 D left ss) {x : Int} (hx : left (.int .i64 x) = true) : Coll1 D (fun z => left z && !z.sameKey (.int .i64 x)) (ss ++ [x]) := by
  obtain ⟨h1, h2, h3⟩ := h
  have hn : x ∉ ss := fun hm => by have := ((h2 x).1 hm).2; rw [hx] at this; cases this
  refine ⟨?_, fun y => ?_, fun y hy => ?_⟩
  · rw [List.nodup_append]
    exact ⟨h1, by simp, fun a ha b hb => by simp at hb; subst hb; intro e; subst e; exact hn ha⟩
  · rw [List.mem_append, List.mem_singleton, h2 y]
    show _ ↔ (_ ∧ (left (.int .i64 y) && !(Lit.int .i64 y).sameKey (.int .i64 x)) = false)
    rw [same_int]
    by_cases e : y = x
    · subst e; simp [h3 y hx]
    · simp [e]
  · have hy' : (left (.int .i64 y) && !(Lit.int .i64 y).sameKey (.int .i64 x)) = true := hy
    rw [Bool.and_eq_true] at hy'
    exact h3 y hy'.1
theorem coll_end {D : DataW Unit} {left : Lit → Bool} {ss : List Int} (h : Coll1 D left ss) (h0 : ∀ kl, left kl = false) : ss.Nodup ∧ ∀ x, x ∈ ss ↔ Maps.has D (.int .i64 x) = true :=
  ⟨h.1, fun x => by rw [h.2.1 x, h0]; simp⟩

/-- Sorting nothing: the world is as it was. -/
theorem insNil (c : Nat) (w : World) : Calls Try.prog 166 #[.slice none 0 c, .int .i64 0, .int .i64 0] w fun e w' => e = .returned (.tuple #[]) ∧ w' = w := by
  go_enter Try.func166, Try.ntmps166
  go_wp2_with fail
  refine wp_loop_rounds 1 ?_
  rw [rounds_succ]
  go_wp2_with fail
  go_end0
  exact ⟨rfl, rfl⟩
set_option maxRecDepth 100000 in
theorem pdqNil (c : Nat) (w : World) : Calls Try.prog 165 #[.slice none 0 c, .int .i64 0, .int .i64 0, .int .i64 0] w fun e w' => e = .returned (.tuple #[]) ∧ w' = w := by
  go_enter Try.func165, Try.ntmps165
  go_wp2_with fail
  refine wp_loop_rounds 1 ?_
  rw [rounds_succ]
  go_wp2_with (go_at_call 166; refine (insNil c _).mono ?_; rintro e w' ⟨rfl, rfl⟩)
  refine bodyPost_ret (results_none rfl _ _ _) rfl ?_
  exact ⟨rfl, rfl⟩
set_option maxRecDepth 100000 in
theorem sortNil (c : Nat) (w : World) : Calls Try.prog 160 #[.slice none 0 c] w fun e w' => e = .returned (.tuple #[]) ∧ w' = w := by
  have hLen : ∀ w, Calls Try.prog 125 #[.int .u64 0] w fun e w' => e = .returned (.int .i64 0) ∧ w' = w := fun w => Try.bits_Len 0 w (by omega) (by omega)
  go_enter Try.func160, Try.ntmps160
  go_wp2_with (first
    | (go_at_call 125; refine (hLen _).mono ?_; rintro e w' ⟨rfl, rfl⟩)
    | (go_at_call 165; refine (pdqNil c _).mono ?_; rintro e w' ⟨rfl, rfl⟩))
  go_end0
  exact ⟨rfl, rfl⟩

set_option maxRecDepth 100000 in
set_option maxHeartbeats 1600000 in
theorem voters_any (b N : Nat) (D : DataW Unit) (w : World) (hown : w.ownsMap Try.prog 3 votE b N D) (hN : N ≤ 60) :
    Calls Try.prog 150 #[.map (some b)] w fun e w' => ∃ ss : List Int, (ss.Nodup ∧ ∀ x, x ∈ ss ↔ Maps.has D (.int .i64 x) = true) ∧ RetSl w (sortI ss) e w' := by
  obtain ⟨i0, hi, hz0, hz1, hz2⟩ := put_parts put_info3
  have ho := Lib.hid hown
  have hbl := hown.lt
  have hsD := hown.size_le
  clear hown
  go_enter Try.func150, Try.ntmps150
  go_wp2_with (at_range; refine wpList_range_own _ rfl _ 170 rfl 3 53 lawI Try.underlying170 votE b N D rfl ho.out ?_; intro w0 hrg0 hg0 hs0; have z0 := Lib.hid hrg0; have u0 := Lib.hid ((Below.refl w.heap.size w).grown hg0 (Nat.le_refl _) (fun k e => by cases e)); have hw0 : w.heap.size + 1 ≤ w0.heap.size := Nat.le_of_eq hs0.symm; clear hrg0 hg0 hs0)
  try go_simp
  go_wp2_with fail
  go_loopw [3, 4] (fun o _ wr => ∃ (left : Lit → Bool) (cnt : Nat) (ss : List Int), Hid (wr.ranges Try.prog 3 votE b w.heap.size N D left cnt) ∧ Hid (wr.ownsRow (w.heap.size + 1) 3 1 o ss.length (ss.map (Value.int .i64))) ∧ Hid (Coll1 D left ss) ∧ ss.length + cnt ≤ N ∧ Hid (Below w.heap.size w wr) ∧ w.heap.size + 1 ≤ wr.heap.size) (fun _ _ wr => wr.rangeLeft b w.heap.size)
  case atStart => exact ⟨_, _, [], z0, Lib.hid (World.ownsRow_nil _ _ _ _), Lib.hid (coll_start D), by simpa using hsD, u0, hw0⟩
  case round =>
    obtain ⟨left, cnt, ss, hrg, hss, hC, hle, hbel, hws⟩ := hrel
    have hleft := Lib.hid hrg.out.left_eq
    go_wp2_with (at_next; refine wpList_next_ranges _ rfl _ rfl 3 lawI votE (fun x : Int => Value.int .i64 x) vtV (fun key kl hk => by obtain ⟨x, hx, _⟩ := keyOf_int_inv Try.underlying3 hk; exact ⟨x, hx⟩) (fun v y hv => by obtain ⟨c, hc, _⟩ := votE_inv hv; exact ⟨c, hc⟩) b w.heap.size N D left cnt rfl hrg.out ?_ ?_)
    · intro h0 hl0
      have hC0 := Lib.hid (coll_end hC.out hl0)
      have b1 : ss.length ≤ 60 := by omega
      clear hl0 hleft
      rcases hss.out.2 with ⟨rfl, hn0⟩ | ⟨g, cap, cur, rfl, hbase, hgg, c1, c2, c3, c4⟩
      · have o3 := Lib.hid hss.out
        have hs0 : ss = [] := List.length_eq_zero_iff.1 hn0
        subst hs0
        go_wp2_with fail
        refine (sortNil 0 wr).mono ?_
        rintro e w3 ⟨rfl, rfl⟩
        go_wp2_with fail
        go_ret
        exact ⟨[], hC0.out, none, 0, 0, rfl, by rw [show sortI [] = [] from by simp [sortI]]; exact own_nil _ _, hbel.out⟩
      · have hgl : g < wr.heap.size := (Array.getElem?_eq_some_iff.1 hgg).1
        have hsort := Lib.hid (Try.slices_Sort_int g 0 cap ss wr (holds_of_blockI hgg (by simpa using c4)) hgl (by omega))
        have hp := Lib.hid hgg; have hq1 := Lib.hid c1; have hq2 := Lib.hid c2; have hq3 := Lib.hid c3
        clear hgg c1 c2 c3 c4
        go_wp2_with fail
        refine hsort.out.mono ?_
        rintro e w3 ⟨rfl, q, os, hw3⟩
        have o3 := Lib.hid (show w3.ownsRow w.heap.size 3 1 (.slice (some ⟨g, 0, none⟩) ss.length cap) ss.length ((sortI ss).map (Value.int .i64)) by rw [hw3]; exact (ownsRow_sortedI (sortI_len ss) hbase hp.out hq1.out hq2.out (by simpa using hq3.out)).mono (by omega))
        have u3 := Lib.hid (hbel.out.grown (show wr.grownBy w3 (some g) by rw [hw3]; exact grownBy_sortedI _) (by omega) (fun j e => by injection e with e; omega))
        clear hw3 hsort
        go_wp2_with fail
        go_ret
        obtain ⟨A6, c6, e6, o6⟩ := OwnAt.of_owns o3.out
        exact ⟨ss, hC0.out, A6, _, c6, by rw [e6]; rfl, o6, u3.out⟩
    · intro x c1 c2 c3 kl yd yp w2 cnt2 hkey hlk hv hat hrg2 hlt hg2 hs2 hen
      obtain ⟨x', hx1, hx2, _⟩ := keyOf_int_inv Try.underlying3 hkey
      injection hx1 with _ hx1
      subst hx1
      subst hx2
      have hss2 := Lib.hid (hss.out.kept hg2 (by
        cases hob : u3.ownBlock with
        | none => exact Or.inl rfl
        | some k => exact Or.inr (fun e => by injection e with e; have := (hss.out.lt k hob).1; omega)))
      have hbel2 := Lib.hid (hbel.out.grown hg2 (by omega) (fun j e => by injection e with e; omega))
      have hC2 := Lib.hid (coll_step hC.out hlk)
      have hr2 := Lib.hid hrg2
      have hl2 := Lib.hid hrg2.left_eq
      have b1 : ss.length ≤ 60 := by omega
      have hws2 : w.heap.size + 1 ≤ w2.heap.size := by rw [hs2]; exact hws
      have hen' := Lib.hid hen
      clear hs2 hg2 hrg2 hv hat hkey hlk hen
      go_wp2_with fail
      rw [hen'.out]
      try go_simp
      go_wp2_with (at_builtin; refine appendV _ rfl _ _ 23 rfl (w.heap.size + 1) i0 Try.underlying23 hi hz0 hz1 hz2 _ ss rfl (hss2.out.alloc _) w2.heap.size 0 1 x rfl ((bx_row w2 (.int .i64 x) 3).cell (i := 0) (by omega)) (by omega) (by simp; omega) ?_; intro g c' w3 r1 r2 r3; have z1 := Lib.hid r1; have z2 := Lib.hid r2; clear r1 r2 r3)
      have z3 := Lib.hid (show (w2.alloc (.cells #[.int .i64 x] 3)).grownBy w3 u3.ownBlock from z2.out)
      have hlt1 : ∀ k, u3.ownBlock = some k → w.heap.size + 1 ≤ k := fun k e => (hss2.out.lt k e).1
      have hr3 := Lib.hid ((hr2.out.alloc (.cells #[.int .i64 x] 3)).kept z3.out (fun e => by have := hlt1 b e.symm; omega) (fun e => by have := hlt1 _ e.symm; omega))
      have hbel3 := Lib.hid ((hbel2.out.alloc (by omega) (.cells #[.int .i64 x] 3)).grown z3.out (by simp; omega) (fun j e => by have := hlt1 j e; omega))
      have hl3 := hr3.out.left_eq
      have hs3 : w.heap.size + 1 ≤ w3.heap.size := by have h9 := z3.out.size; simp at h9; omega
      exact ⟨⟨_, cnt2, ss ++ [x], hr3, z1, hC2, by simp; omega, hbel3, hs3⟩, by rw [hl3, hleft]; exact hlt⟩
end Go.Proofs.Ytlobjfipefibaaa
