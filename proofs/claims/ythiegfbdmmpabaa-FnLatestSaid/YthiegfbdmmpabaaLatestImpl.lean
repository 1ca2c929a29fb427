/- What is proved here: the list of the last votes of the voters that are no liars, in the order of a pool, and that the sorted keys of a map that holds just those voters are its voters. No conditions but the pool's order. -/
import Derived.Test.YthiegfbdmmpabaaVoteFacts
import Derived.Test.YthiegfbdmmpabaaPutWalk
import Derived.Test.YthiegfbdmmpabaaLatestMap
import Derived.Sort.OwnSortedInts
import Derived.Test.YthiegfbdmmpabaaVoteApp
namespace Go.Proofs.Ythiegfbdmmpabaa
open Go.RowKit

/-- Two lists with the same members, each once: sorted they are one. -/
theorem sortI_uniq {ss ts : List Int} (hs : ss.Nodup) (ht : ts.Pairwise (· < ·)) (h : ∀ x, x ∈ ss ↔ x ∈ ts) : sortI ss = ts := by
  have h3 : (sortI ss).Pairwise (· ≤ ·) := by
    have := List.pairwise_mergeSort (le := fun (x y : Int) => decide (x ≤ y)) (fun a b c hab hbc => by simp at *; omega) (fun a b => by simp; omega) ss
    exact this.imp (fun h => by simpa using h)
  have hn : ts.Nodup := ht.imp (fun h e => by omega)
  refine List.Perm.eq_of_pairwise (le := (· ≤ ·)) (fun a b _ _ h1 h2 => by omega) h3 (ht.imp (fun h => Int.le_of_lt h)) ?_
  exact (List.mergeSort_perm ss _).trans ((List.perm_ext_iff_of_nodup hs hn).2 h)

/-- Vote k is its voter's last. -/
def lastV (vs : List Vt) (k : Nat) : Bool := (k + 1 == vs.length) || !((getV vs (k + 1)).1 == (getV vs k).1)
/-- The last votes among the first k, without those of ls. -/
def latL (vs : List Vt) (ls : List Int) : Nat → List Vt
  | 0 => []
  | k + 1 => if !ls.contains (getV vs k).1 && lastV vs k then latL vs ls k ++ [getV vs k] else latL vs ls k
theorem latL_len (vs : List Vt) (ls : List Int) : ∀ k, (latL vs ls k).length ≤ k := by
  intro k
  induction k with
  | zero => simp [latL]
  | succ k ih => simp only [latL]; split; (rw [List.length_append, List.length_singleton]; omega); omega
theorem who_step {vs : List Vt} (hs : ∀ k, k < vs.length → k ≠ 0 → lessV (getV vs (k - 1)) (getV vs k) = true) {k : Nat} (hk : k + 1 < vs.length) : (getV vs k).1 ≤ (getV vs (k + 1)).1 := by
  have h := hs (k + 1) hk (by omega)
  simp only [Nat.add_sub_cancel, lessV, Bool.or_eq_true, Bool.and_eq_true, decide_eq_true_eq, beq_iff_eq] at h
  omega
/-- Voters rise with the votes. -/
theorem who_mono {vs : List Vt} (hs : ∀ k, k < vs.length → k ≠ 0 → lessV (getV vs (k - 1)) (getV vs k) = true) {i : Nat} : ∀ j, i ≤ j → j < vs.length → (getV vs i).1 ≤ (getV vs j).1 := by
  intro j
  induction j with
  | zero => intro h _; have : i = 0 := by omega
            subst this; exact Int.le_refl _
  | succ j ih =>
    intro h hj
    by_cases e : i = j + 1
    · subst e; exact Int.le_refl _
    · exact Int.le_trans (ih (by omega) (by omega)) (who_step hs hj)
theorem latL_mem {vs : List Vt} {ls : List Int} {v : Vt} : ∀ k, v ∈ latL vs ls k ↔ ∃ i, i < k ∧ getV vs i = v ∧ ls.contains v.1 = false ∧ lastV vs i = true := by
  intro k
  induction k with
  | zero => simp [latL]
  | succ k ih =>
    simp only [latL]
    by_cases hc : (!ls.contains (getV vs k).1 && lastV vs k) = true
    · rw [if_pos hc, List.mem_append, ih, List.mem_singleton]
      simp only [Bool.and_eq_true, Bool.not_eq_true'] at hc
      constructor
      · rintro (⟨i, h1, h2⟩ | h)
        · exact ⟨i, by omega, h2⟩
        · exact ⟨k, by omega, h.symm, by rw [h]; exact hc.1, hc.2⟩
      · rintro ⟨i, h1, h2, h3⟩
        by_cases e : i = k
        · subst e; exact Or.inr h2.symm
        · exact Or.inl ⟨i, by omega, h2, h3⟩
    · rw [if_neg hc, ih]
      constructor
      · rintro ⟨i, h1, h2⟩; exact ⟨i, by omega, h2⟩
      · rintro ⟨i, h1, h2, h3, h4⟩
        refine ⟨i, ?_, h2, h3, h4⟩
        by_cases e : i = k
        · subst e; exact absurd (by rw [h2, h3, h4]; rfl) hc
        · omega
theorem latL_up {vs : List Vt} {ls : List Int} (hs : ∀ k, k < vs.length → k ≠ 0 → lessV (getV vs (k - 1)) (getV vs k) = true) : ∀ k, k ≤ vs.length → ((latL vs ls k).map (·.1)).Pairwise (· < ·) := by
  intro k
  induction k with
  | zero => intro _; simp [latL]
  | succ k ih =>
    intro hk
    simp only [latL]
    split
    · rw [List.map_append, List.pairwise_append]
      refine ⟨ih (by omega), by simp, fun a ha b hb => ?_⟩
      simp only [List.map_cons, List.map_nil, List.mem_singleton] at hb
      subst hb
      obtain ⟨v, hv, rfl⟩ := List.mem_map.1 ha
      obtain ⟨i, h1, rfl, _, h4⟩ := (latL_mem k).1 hv
      have h5 := who_step hs (k := i) (by omega)
      have h6 := who_mono hs (i := i + 1) k (by omega) (by omega)
      simp only [lastV, Bool.or_eq_true, beq_iff_eq, Bool.not_eq_true', beq_eq_false_iff_ne] at h4
      rcases h4 with h4 | h4
      · omega
      · show (getV vs i).1 < (getV vs k).1
        omega
    · exact ih (by omega)
/-- Behind a voter's last vote there is no other of this voter. -/
theorem last_only {vs : List Vt} (hs : ∀ k, k < vs.length → k ≠ 0 → lessV (getV vs (k - 1)) (getV vs k) = true) {i : Nat} (h : lastV vs i = true) : ∀ j, i < j → j < vs.length → (getV vs j).1 ≠ (getV vs i).1 := by
  intro j h1 h2 e
  have h5 := who_step hs (k := i) (by omega)
  have h6 := who_mono hs (i := i + 1) j (by omega) h2
  simp only [lastV, Bool.or_eq_true, beq_iff_eq, Bool.not_eq_true', beq_eq_false_iff_ne] at h
  rcases h with h | h
  · omega
  · exact h (by omega)
/-- Who votes has a last vote. -/
theorem last_is {vs : List Vt} : ∀ n i, i + n = vs.length → i < vs.length → ∃ j, i ≤ j ∧ j < vs.length ∧ (getV vs j).1 = (getV vs i).1 ∧ lastV vs j = true := by
  intro n
  induction n with
  | zero => intro i h1 h2; omega
  | succ n ih =>
    intro i h1 h2
    cases hl : lastV vs i
    · simp only [lastV, Bool.or_eq_false_iff, beq_eq_false_iff_ne, Bool.not_eq_false', beq_iff_eq] at hl
      obtain ⟨j, a, b, c, d⟩ := ih (i + 1) (by omega) (by omega)
      exact ⟨j, by omega, b, by rw [c, hl.2], d⟩
    · exact ⟨i, Nat.le_refl _, h2, rfl, hl⟩
/-- The voters of that list: who votes, and is not in ls. -/
theorem latL_who {vs : List Vt} {ls : List Int} (x : Int) : x ∈ (latL vs ls vs.length).map (·.1) ↔ (∃ i, i < vs.length ∧ (getV vs i).1 = x) ∧ ls.contains x = false := by
  rw [List.mem_map]
  constructor
  · rintro ⟨v, hv, rfl⟩
    obtain ⟨i, h1, rfl, h3, _⟩ := (latL_mem _).1 hv
    exact ⟨⟨i, h1, rfl⟩, h3⟩
  · rintro ⟨⟨i, h1, rfl⟩, h2⟩
    obtain ⟨j, a, b, c, d⟩ := last_is (vs.length - i) i (by omega) h1
    exact ⟨getV vs j, (latL_mem _).2 ⟨j, b, rfl, by rw [c]; exact h2, d⟩, c⟩
end Go.Proofs.Ythiegfbdmmpabaa

/- What is proved here: the keys of the map of last votes, the liars struck, are the voters of the list of last votes, and the map holds those votes. No conditions but the pool's order. -/
namespace Go.Proofs.Ythiegfbdmmpabaa
open Go.RowKit Go.Maps

theorem del_isMap {D : DataW Unit} (h : IsMap D) (l : List Int) : ∀ j, IsMap (delL D l j)
  | 0 => h
  | j + 1 => (del_isMap h l j).del _
theorem take_get {l : List Int} {j : Nat} (h : j < l.length) : l.take (j + 1) = l.take j ++ [l[j]?.getD 0] := by
  rw [List.take_succ_eq_append_getElem h, List.getElem?_eq_getElem h, Option.getD_some]
theorem del_has (D : DataW Unit) (l : List Int) (x : Int) : ∀ j, j ≤ l.length → Maps.has (delL D l j) (.int .i64 x) = (Maps.has D (.int .i64 x) && !(l.take j).contains x) := by
  intro j
  induction j with
  | zero => intro _; simp [delL]
  | succ j ih =>
    intro hj
    rw [take_get (by omega)]
    simp only [delL]
    by_cases e : x = l[j]?.getD 0
    · rw [← e, has_del_same]; simp
    · rw [has_del_other (fun h => e (by injection h)), ih (by omega)]
      have e2 : (List.take j l ++ [l[j]?.getD 0]).contains x = (List.take j l).contains x := by
        rw [Bool.eq_iff_iff]; simp [e]
      rw [e2]
theorem del_at (D : DataW Unit) (l : List Int) (x : Int) (z : DataW Unit) : ∀ j, j ≤ l.length → x ∉ l.take j → (delL D l j).atKey (.int .i64 x) z = D.atKey (.int .i64 x) z := by
  intro j
  induction j with
  | zero => intro _ _; rfl
  | succ j ih =>
    intro hj hx
    rw [take_get (by omega), List.mem_append, List.mem_singleton] at hx
    simp only [delL]
    rw [atKey_del_other (fun h => hx (.inr (by injection h)))]
    exact ih (by omega) (fun h => hx (.inl h))

/-- The last votes of the voters that are no liars. -/
def latList (vs : List Vt) : List Vt := latL vs (putsL vs vs.length) vs.length
theorem latList_len (vs : List Vt) : (latList vs).length ≤ vs.length := latL_len _ _ _
/-- The map that the program holds when it has struck the liars. -/
def latMap (vs : List Vt) : DataW Unit := delL (latD vs vs.length) (putsL vs vs.length) (putsL vs vs.length).length
theorem latMap_has (vs : List Vt) (x : Int) : Maps.has (latMap vs) (.int .i64 x) = true ↔ x ∈ (latList vs).map (·.1) := by
  unfold latMap latList
  rw [latL_who, del_has _ _ _ _ (Nat.le_refl _), lat_has, List.take_length, Bool.and_eq_true, Bool.not_eq_true']
  refine and_congr_left fun _ => ?_
  unfold votedB
  simp only [List.any_eq_true, List.mem_range, beq_iff_eq]
theorem keys_eq {vs : List Vt} (hs : ∀ k, k < vs.length → k ≠ 0 → lessV (getV vs (k - 1)) (getV vs k) = true) {ss : List Int} (hn : ss.Nodup) (h : ∀ x, x ∈ ss ↔ Maps.has (latMap vs) (.int .i64 x) = true) : sortI ss = (latList vs).map (·.1) :=
  sortI_uniq hn (latL_up hs _ (Nat.le_refl _)) fun x => (h x).trans (latMap_has vs x)
theorem lat_lookup {vs : List Vt} (hs : ∀ k, k < vs.length → k ≠ 0 → lessV (getV vs (k - 1)) (getV vs k) = true) {j : Nat} (hj : j < (latList vs).length) (z : DataW Unit) : (latMap vs).atKey (.int .i64 (getV (latList vs) j).1) z = votD (getV (latList vs) j) := by
  have hm : getV (latList vs) j ∈ latList vs := by
    unfold getV; rw [List.getElem?_eq_getElem hj, Option.getD_some]; exact List.getElem_mem hj
  obtain ⟨i, hi, e, hc, hl⟩ := (latL_mem _).1 hm
  unfold latMap
  rw [del_at _ _ _ _ _ (Nat.le_refl _) (by rw [List.take_length]; intro hx; rw [List.contains_iff_mem.2 hx] at hc; cases hc)]
  rw [← e]
  exact lat_at _ hi rfl (fun k h1 h2 => last_only hs hl k h1 h2) z
theorem latList_in {vs : List Vt} {j : Nat} (hj : j < (latList vs).length) : ∃ i, i < vs.length ∧ getV vs i = getV (latList vs) j := by
  have hm : getV (latList vs) j ∈ latList vs := by
    unfold getV; rw [List.getElem?_eq_getElem hj, Option.getD_some]; exact List.getElem_mem hj
  obtain ⟨i, hi, e, _⟩ := (latL_mem _).1 hm
  exact ⟨i, hi, e⟩
theorem map_get1 (l : List Vt) {j : Nat} (h : j < l.length) : (l.map (·.1))[j]?.getD 0 = (getV l j).1 := by
  unfold getV; simp [h]
theorem take_getV {l : List Vt} {j : Nat} (h : j < l.length) : l.take (j + 1) = l.take j ++ [getV l j] := by
  unfold getV
  rw [List.take_succ_eq_append_getElem h, List.getElem?_eq_getElem h, Option.getD_some]
end Go.Proofs.Ythiegfbdmmpabaa

/- What is proved here: what the program's votersInOrder returns: the keys of a map of votes, sorted. No conditions but the map's size. -/
namespace Go.Proofs.Ythiegfbdmmpabaa
open Go.RowKit Go.Maps Go.Sort

theorem same_int (x y : Int) : (Lit.int .i64 x).sameKey (.int .i64 y) = decide (x = y) := by
  by_cases h : x = y
  · subst h; simp [Lit.sameKey]
  · rw [sameKey_ne (fun e => h (by injection e)), decide_eq_false h]

/-- What has been collected: each key once, and just those that are no longer to come. -/
def Coll1 (D : DataW Unit) (left : Lit → Bool) (ss : List Int) : Prop := ss.Nodup ∧ (∀ x, x ∈ ss ↔ (Maps.has D (.int .i64 x) = true ∧ left (.int .i64 x) = false)) ∧ ∀ x, left (.int .i64 x) = true → Maps.has D (.int .i64 x) = true
theorem coll_start (D : DataW Unit) : Coll1 D (Maps.has D) [] := ⟨List.nodup_nil, fun x => by cases Maps.has D (.int .i64 x) <;> simp, fun _ h => h⟩
theorem coll_step {D : DataW Unit} {left : Lit → Bool} {ss : List Int} (h : Coll1 D left ss) {x : Int} (hx : left (.int .i64 x) = true) : Coll1 D (fun z => left z && !z.sameKey (.int .i64 x)) (ss ++ [x]) := by
  obtain ⟨h1, h2, h3⟩ := h
  have hn : x ∉ ss := fun hm => by have := ((h2 x).1 hm).2; rw [hx] at this; cases this
  refine ⟨?_, fun y => ?_, fun y hy => ?_⟩
  · rw [List.nodup_append]
    exact ⟨h1, by simp, fun a ha b hb => by simp at hb; subst hb; intro e; subst e; exact hn ha⟩
  · rw [List.mem_append, List.mem_singleton, h2 y]
    show _ ↔ (_ ∧ (left (.int .i64 y) && !(Lit.int .i64 y).sameKey (.int .i64 x)) = false)
    rw [same_int]
    by_cases e : y = x
    · subst e; simp [h3 y hx]
    · simp [e]
  · have hy' : (left (.int .i64 y) && !(Lit.int .i64 y).sameKey (.int .i64 x)) = true := hy
    rw [Bool.and_eq_true] at hy'
    exact h3 y hy'.1
theorem coll_end {D : DataW Unit} {left : Lit → Bool} {ss : List Int} (h : Coll1 D left ss) (h0 : ∀ kl, left kl = false) : ss.Nodup ∧ ∀ x, x ∈ ss ↔ Maps.has D (.int .i64 x) = true :=
  ⟨h.1, fun x => by rw [h.2.1 x, h0]; simp⟩

/-- Sorting nothing: the world is as it was. -/
theorem insNil (c : Nat) (w : World) : Calls Try.prog 186 #[.slice none 0 c, .int .i64 0, .int .i64 0] w fun e w' => e = .returned (.tuple #[]) ∧ w' = w := by
  go_enter Try.func186, Try.ntmps186
  go_wp2_with fail
  refine wp_loop_rounds 1 ?_
  rw [rounds_succ]
  go_wp2_with fail
  go_end0
  exact ⟨rfl, rfl⟩
set_option maxRecDepth 100000 in
theorem pdqNil (c : Nat) (w : World) : Calls Try.prog 182 #[.slice none 0 c, .int .i64 0, .int .i64 0, .int .i64 0] w fun e w' => e = .returned (.tuple #[]) ∧ w' = w := by
  go_enter Try.func182, Try.ntmps182
  go_wp2_with fail
  refine wp_loop_rounds 1 ?_
  rw [rounds_succ]
  go_wp2_with (go_at_call 186; refine (insNil c _).mono ?_; rintro e w' ⟨rfl, rfl⟩)
  refine bodyPost_ret (results_none rfl _ _ _) rfl ?_
  exact ⟨rfl, rfl⟩
set_option maxRecDepth 100000 in
theorem sortNil (c : Nat) (w : World) : Calls Try.prog 170 #[.slice none 0 c] w fun e w' => e = .returned (.tuple #[]) ∧ w' = w := by
  have hLen : ∀ w, Calls Try.prog 183 #[.int .u64 0] w fun e w' => e = .returned (.int .i64 0) ∧ w' = w := fun w => Try.bits_Len 0 w (by omega) (by omega)
  go_enter Try.func170, Try.ntmps170
  go_wp2_with (first
    | (go_at_call 183; refine (hLen _).mono ?_; rintro e w' ⟨rfl, rfl⟩)
    | (go_at_call 182; refine (pdqNil c _).mono ?_; rintro e w' ⟨rfl, rfl⟩))
  go_end0
  exact ⟨rfl, rfl⟩

set_option maxRecDepth 100000 in
set_option maxHeartbeats 1600000 in
theorem voters_any (b N : Nat) (D : DataW Unit) (w : World) (hown : w.ownsMap Try.prog 3 votE b N D) (hN : N ≤ 60) :
    Calls Try.prog 128 #[.map (some b)] w fun e w' => ∃ ss : List Int, (ss.Nodup ∧ ∀ x, x ∈ ss ↔ Maps.has D (.int .i64 x) = true) ∧ RetSl w (sortI ss) e w' := by
  obtain ⟨i0, hi, hz0, hz1, hz2⟩ := put_parts put_info3
  have ho := Lib.hid hown
  have hbl := hown.lt
  have hsD := hown.size_le
  clear hown
  go_enter Try.func128, Try.ntmps128
  go_wp2_with (at_range; refine wpList_range_own _ rfl _ 136 rfl 3 63 lawI Try.underlying136 votE b N D rfl ho.out ?_; intro w0 hrg0 hg0 hs0; have z0 := Lib.hid hrg0; have u0 := Lib.hid ((Below.refl w.heap.size w).grown hg0 (Nat.le_refl _) (fun k e => by cases e)); have hw0 : w.heap.size + 1 ≤ w0.heap.size := Nat.le_of_eq hs0.symm; clear hrg0 hg0 hs0)
  try go_simp
  go_wp2_with fail
  go_loopw [3, 4] (fun o _ wr => ∃ (left : Lit → Bool) (cnt : Nat) (ss : List Int), Hid (wr.ranges Try.prog 3 votE b w.heap.size N D left cnt) ∧ Hid (wr.ownsRow (w.heap.size + 1) 3 1 o ss.length (ss.map (Value.int .i64))) ∧ Hid (Coll1 D left ss) ∧ ss.length + cnt ≤ N ∧ Hid (Below w.heap.size w wr) ∧ w.heap.size + 1 ≤ wr.heap.size) (fun _ _ wr => wr.rangeLeft b w.heap.size)
  case atStart => exact ⟨_, _, [], z0, Lib.hid (World.ownsRow_nil _ _ _ _), Lib.hid (coll_start D), by simpa using hsD, u0, hw0⟩
  case round =>
    obtain ⟨left, cnt, ss, hrg, hss, hC, hle, hbel, hws⟩ := hrel
    have hleft := Lib.hid hrg.out.left_eq
    go_wp2_with (at_next; refine wpList_next_ranges _ rfl _ rfl 3 lawI votE (fun x : Int => Value.int .i64 x) vtV (fun key kl hk => by obtain ⟨x, hx, _⟩ := keyOf_int_inv Try.underlying3 hk; exact ⟨x, hx⟩) (fun v y hv => by obtain ⟨c, hc, _⟩ := votE_inv hv; exact ⟨c, hc⟩) b w.heap.size N D left cnt rfl hrg.out ?_ ?_)
    · intro h0 hl0
      have hC0 := Lib.hid (coll_end hC.out hl0)
      have b1 : ss.length ≤ 60 := by omega
      clear hl0 hleft
      rcases hss.out.2 with ⟨rfl, hn0⟩ | ⟨g, cap, cur, rfl, hbase, hgg, c1, c2, c3, c4⟩
      · have o3 := Lib.hid hss.out
        have hs0 : ss = [] := List.length_eq_zero_iff.1 hn0
        subst hs0
        go_wp2_with fail
        refine (sortNil 0 wr).mono ?_
        rintro e w3 ⟨rfl, rfl⟩
        go_wp2_with fail
        go_ret
        exact ⟨[], hC0.out, none, 0, 0, rfl, by rw [show sortI [] = [] from by simp [sortI]]; exact own_nil _ _, hbel.out⟩
      · have hgl : g < wr.heap.size := (Array.getElem?_eq_some_iff.1 hgg).1
        have hsort := Lib.hid (Try.slices_Sort_int g 0 cap ss wr (holds_of_blockI hgg (by simpa using c4)) hgl (by omega))
        have hp := Lib.hid hgg; have hq1 := Lib.hid c1; have hq2 := Lib.hid c2; have hq3 := Lib.hid c3
        clear hgg c1 c2 c3 c4
        go_wp2_with fail
        refine hsort.out.mono ?_
        rintro e w3 ⟨rfl, q, os, hw3⟩
        have o3 := Lib.hid (show w3.ownsRow w.heap.size 3 1 (.slice (some ⟨g, 0, none⟩) ss.length cap) ss.length ((sortI ss).map (Value.int .i64)) by rw [hw3]; exact (ownsRow_sortedI (sortI_len ss) hbase hp.out hq1.out hq2.out (by simpa using hq3.out)).mono (by omega))
        have u3 := Lib.hid (hbel.out.grown (show wr.grownBy w3 (some g) by rw [hw3]; exact grownBy_sortedI _) (by omega) (fun j e => by injection e with e; omega))
        clear hw3 hsort
        go_wp2_with fail
        go_ret
        obtain ⟨A6, c6, e6, o6⟩ := OwnAt.of_owns o3.out
        exact ⟨ss, hC0.out, A6, _, c6, by rw [e6]; rfl, o6, u3.out⟩
    · intro x c1 c2 c3 kl yd yp w2 cnt2 hkey hlk hv hat hrg2 hlt hg2 hs2 hen
      obtain ⟨x', hx1, hx2, _⟩ := keyOf_int_inv Try.underlying3 hkey
      injection hx1 with _ hx1
      subst hx1
      subst hx2
      have hss2 := Lib.hid (hss.out.kept hg2 (by
        cases hob : u3.ownBlock with
        | none => exact Or.inl rfl
        | some k => exact Or.inr (fun e => by injection e with e; have := (hss.out.lt k hob).1; omega)))
      have hbel2 := Lib.hid (hbel.out.grown hg2 (by omega) (fun j e => by injection e with e; omega))
      have hC2 := Lib.hid (coll_step hC.out hlk)
      have hr2 := Lib.hid hrg2
      have hl2 := Lib.hid hrg2.left_eq
      have b1 : ss.length ≤ 60 := by omega
      have hws2 : w.heap.size + 1 ≤ w2.heap.size := by rw [hs2]; exact hws
      have hen' := Lib.hid hen
      clear hs2 hg2 hrg2 hv hat hkey hlk hen
      go_wp2_with fail
      rw [hen'.out]
      try go_simp
      go_wp2_with (at_builtin; refine appendV _ rfl _ _ 23 rfl (w.heap.size + 1) i0 Try.underlying23 hi hz0 hz1 hz2 _ ss rfl (hss2.out.alloc _) w2.heap.size 0 1 x rfl ((bx_row w2 (.int .i64 x) 3).cell (i := 0) (by omega)) (by omega) (by simp; omega) ?_; intro g c' w3 r1 r2 r3; have z1 := Lib.hid r1; have z2 := Lib.hid r2; clear r1 r2 r3)
      have z3 := Lib.hid (show (w2.alloc (.cells #[.int .i64 x] 3)).grownBy w3 u3.ownBlock from z2.out)
      have hlt1 : ∀ k, u3.ownBlock = some k → w.heap.size + 1 ≤ k := fun k e => (hss2.out.lt k e).1
      have hr3 := Lib.hid ((hr2.out.alloc (.cells #[.int .i64 x] 3)).kept z3.out (fun e => by have := hlt1 b e.symm; omega) (fun e => by have := hlt1 _ e.symm; omega))
      have hbel3 := Lib.hid ((hbel2.out.alloc (by omega) (.cells #[.int .i64 x] 3)).grown z3.out (by simp; omega) (fun j e => by have := hlt1 j e; omega))
      have hl3 := hr3.out.left_eq
      have hs3 : w.heap.size + 1 ≤ w3.heap.size := by have h9 := z3.out.size; simp at h9; omega
      exact ⟨⟨_, cnt2, ss ++ [x], hr3, z1, hC2, by simp; omega, hbel3, hs3⟩, by rw [hl3, hleft]; exact hlt⟩
end Go.Proofs.Ythiegfbdmmpabaa

/- What is proved here: what the program's LatestIn returns. No conditions but lengths. -/
namespace Go.Proofs.Ythiegfbdmmpabaa
open Go.RowKit Go.Maps

def RetVotes (w : World) (b : Bool) (vs : List Vt) (e : Ending) (w' : World) : Prop :=
  ∃ A n c, e = .returned (.tuple #[.slice A n c, .bool b]) ∧ OwnV w' w.heap.size A n vs ∧ Below w.heap.size w w'
def RetVs (w : World) (vs : List Vt) (e : Ending) (w' : World) : Prop :=
  ∃ A n c, e = .returned (.slice A n c) ∧ OwnV w' w.heap.size A n vs ∧ Below w.heap.size w w'
def latR (ts : List Blk) (ss : List Int) (vs : List Vt) : List Vt := if poolOk ts ss vs = true then latList vs else []
theorem latR_len (ts : List Blk) (ss : List Int) (vs : List Vt) : (latR ts ss vs).length ≤ 100 := by
  unfold latR
  split
  · next h => have := (poolOk_iff.1 h).1.2; have := latList_len vs; omega
  · exact Nat.zero_le _
theorem who_bd {ts : List Blk} {ss : List Int} {vs : List Vt} (h : poolOk ts ss vs = true) : ∀ k, k < vs.length → 0 ≤ (getV vs k).1 ∧ (getV vs k).1 ≤ 1000 := by
  intro k hk
  obtain ⟨⟨⟨_, hg⟩, _⟩, h2, _⟩ := poolOk_iff.1 h
  obtain ⟨⟨i, hi, hi'⟩, _⟩ := voteOk_iff.1 (h2 k hk)
  have := (goodB_len hg).2
  omega
theorem putL_mem {l : List Int} {x y : Int} (h : y ∈ putL l x) : y = x ∨ y ∈ l := by
  unfold putL at h
  split at h
  · exact .inr h
  · rw [List.mem_append, List.mem_cons] at h
    rcases h with h | h | h
    · exact .inr (List.mem_of_mem_take h)
    · exact .inl h
    · exact .inr (List.mem_of_mem_drop h)
theorem puts_bd {vs : List Vt} {x : Int} : ∀ m, x ∈ putsL vs m → ∃ k, k < m ∧ (getV vs k).1 = x := by
  intro m
  induction m with
  | zero => intro h; cases h
  | succ m ih =>
    intro h
    simp only [putsL] at h
    split at h
    · rcases putL_mem h with e | h
      · exact ⟨m, by omega, e.symm⟩
      · obtain ⟨k, hk, e⟩ := ih h; exact ⟨k, by omega, e⟩
    · obtain ⟨k, hk, e⟩ := ih h; exact ⟨k, by omega, e⟩
theorem put_bd {ts : List Blk} {ss : List Int} {vs : List Vt} (h : poolOk ts ss vs = true) : ∀ j, j < (putsL vs vs.length).length → 0 ≤ (putsL vs vs.length)[j]?.getD 0 ∧ (putsL vs vs.length)[j]?.getD 0 ≤ 1000 := by
  intro j hj
  rw [List.getElem?_eq_getElem hj, Option.getD_some]
  obtain ⟨k, hk, e⟩ := puts_bd _ (List.getElem_mem hj)
  rw [← e]
  exact who_bd h k hk
theorem zeroVote (w : World) : (zeroValue 63).run Try.prog w = .ok (vtV (0, 0, 0)) w := by
  obtain ⟨i0, hi, hzz⟩ := Option.map_eq_some_iff.1 infoVote
  simp only [Prod.mk.injEq] at hzz
  unfold zeroValue
  simp [typeInfo, hi, hzz.1, vtV]

set_option maxRecDepth 100000 in
set_option maxHeartbeats 1600000 in
theorem implLatest_any (A : Option Addr) (n c : Nat) (ts : List Blk) (A' : Option Addr) (n' c' : Nat) (ss : List Int) (V : Option Addr) (m d : Nat) (vs : List Vt) (w : World) (h : BlksAt w w.heap.size A n ts) (h' : IntsAt w w.heap.size A' n' ss) (hv : VotesAt w w.heap.size V m vs) (hn : n ≤ 1048576) (hn' : n' ≤ 1048576) (hm : m ≤ 1048576) :
    Calls Try.prog 59 #[.slice A n c, .slice A' n' c', .agg #[.slice V m d]] w (RetVotes w (poolOk ts ss vs) (latR ts ss vs)) := by
  have hlv := Lib.hid hv.1
  have hh := Lib.hid h; have hh' := Lib.hid h'; have hvv := Lib.hid hv; clear h h' hv
  have bx0 := Lib.hid (Bx.start w (.slice V m d) 55)
  have hc0 := bx0.out.cell
  cases hg : poolOk ts ss vs
  · have hr := Lib.hid (show latR ts ss vs = [] by unfold latR; rw [hg]; rfl)
    go_enter Try.func59, Try.ntmps59
    go_wp2_with (go_at_call 51; refine (goodPool_any A n c ts A' n' c' ss V m d vs _ (hh.out.up bx0.out.below) (hh'.out.up' bx0.out.below) (hvv.out.up bx0.out.below) hn hn' hm).mono ?_; rintro e w1 ⟨rfl, b1⟩; rw [hg]; have bx1 := Lib.hid (bx0.out.step b1); clear b1)
    go_ret2
    exact ⟨none, 0, 0, rfl, by rw [hr.out]; exact OwnV.nil _ _, bx1.out.below⟩
  · obtain ⟨⟨_, h60⟩, _, hs⟩ := poolOk_iff.1 hg
    have hr := Lib.hid (show latR ts ss vs = latList vs by unfold latR; rw [hg, if_pos rfl])
    have hs' := Lib.hid hs
    have hwb := Lib.hid (who_bd hg)
    have hpb := Lib.hid (show ∀ j, j < (putsL vs m).length → 0 ≤ (putsL vs m)[j]?.getD 0 ∧ (putsL vs m)[j]?.getD 0 ≤ 1000 by rw [← hlv.out]; exact put_bd hg)
    have hm60 : m ≤ 60 := by rw [← hlv.out]; exact h60
    have hmap := Lib.hid (show delL (latD vs m) (putsL vs m) (putsL vs m).length = latMap vs by unfold latMap; rw [hlv.out])
    have hll := Lib.hid (latList_len vs)
    clear hs h60
    go_enter Try.func59, Try.ntmps59
    go_wp2_with (first
      | (go_at_call 51; refine (goodPool_any A n c ts A' n' c' ss V m d vs _ (hh.out.up bx0.out.below) (hh'.out.up' bx0.out.below) (hvv.out.up bx0.out.below) hn hn' hm).mono ?_; rintro e w1 ⟨rfl, b1⟩; rw [hg]; have bx1 := Lib.hid (bx0.out.step b1); have hc1 := bx1.out.cell; clear b1)
      | (go_at_call 127; refine (latestBy_any V m d vs _ (hvv.out.up bx1.out.below) hm60 hs'.out hwb.out hpb.out).mono ?_; rintro e w2 ⟨b, rfl, hown, hb, b2⟩; have bx2 := Lib.hid (bx1.out.step b2); rw [hmap.out] at hown; have y2 := Lib.hid hown; have hbl := Lib.hid hown.lt; clear hown b2 hb)
      | (go_at_call 128; refine (voters_any b m (latMap vs) _ y2.out hm60).mono ?_; rintro e w3 ⟨ssx, ⟨hn1, hk1⟩, A3, n3, c3, rfl, o3, b3⟩; have bx3 := Lib.hid (bx2.out.step b3); rw [keys_eq hs'.out hn1 hk1] at o3; have o3' := Lib.hid o3; have y3 := Lib.hid (y2.out.kept (row := none) ⟨b3.os, b3.tape, b3.output, b3.size, fun k hk _ => b3.block k hk⟩ (by simp)); clear b3 o3 hn1 hk1))
    have hn3 := Lib.hid (show (latList vs).length = n3 by have := o3'.out.len; simpa using this)
    have hn60 : n3 ≤ 60 := by have := hn3.out; have := hll.out; rw [hlv.out] at this; omega
    have hbl3 := Lib.hid y3.out.lt
    have i3 := Lib.hid o3'.out.ints
    go_loopw [9, 11, 22] (fun o _ i wr => ∃ k : Nat, k ≤ n3 ∧ i = .int .i64 k ∧ Hid (wr.ownsRow w3.heap.size 63 3 o ((latList vs).take k).length (flatV ((latList vs).take k))) ∧ Hid (Below w3.heap.size w3 wr)) (fun _ _ i _ => n3 - (intOf i).toNat)
    case atStart => exact ⟨0, Nat.zero_le _, rfl, Lib.hid (World.ownsRow_nil _ _ _ _), Lib.hid (Below.refl _ _)⟩
    case round =>
      obtain ⟨k, hk, rfl, ho, hbel⟩ := hrel
      have hws := hbel.out.size
      have htl := Lib.hid (show ((latList vs).take k).length = k by rw [List.length_take, hn3.out]; omega)
      by_cases hlt : k < n3
      · obtain ⟨lb, lo, rfl, hlb, hlc⟩ := i3.out.2 k hlt
        have hlc' := (hbel.out.cell (p := ⟨lb, lo + k, none⟩) hlb).trans hlc
        rw [map_get1 _ (by rw [hn3.out]; exact hlt)] at hlc'
        have hlook := Lib.hid (lat_lookup hs'.out (j := k) (by rw [hn3.out]; exact hlt) (votD (0, 0, 0)))
        obtain ⟨i, hi1, hi2⟩ := latList_in (vs := vs) (j := k) (by rw [hn3.out]; exact hlt)
        have hwk := hwb.out i hi1
        rw [hi2] at hwk
        have htk := Lib.hid (take_getV (l := latList vs) (j := k) (by rw [hn3.out]; exact hlt))
        obtain ⟨v, hv⟩ : ∃ v, getV (latList vs) k = v := ⟨_, rfl⟩
        rw [hv] at hlc' hlook hwk htk
        obtain ⟨v1, v2, v3⟩ := v
        simp only at hlc' hlook hwk
        have hkey := Lib.hid (keyI hwk.1 hwk.2)
        have hown := Lib.hid (y3.out.kept (row := none) ⟨hbel.out.os, hbel.out.tape, hbel.out.output, hbel.out.size, fun k hk _ => hbel.out.block k hk⟩ (by simp))
        have hbox := three_cells wr v1 v2 v3 63
        have e0 := hbox.cell (i := 0) (by omega)
        have e1 := hbox.cell (i := 1) (by omega)
        have e2 := hbox.cell (i := 2) (by omega)
        simp only [if_true, if_false, show (1 : Nat) ≠ 0 by decide, show (2 : Nat) ≠ 0 by decide, show (2 : Nat) ≠ 1 by decide] at e0 e1 e2
        have E0 := Lib.hid e0; have E1 := Lib.hid e1; have E2 := Lib.hid e2
        clear hlc hi1 hi2 hv hwk hbox e0 e1 e2
        go_wp2_with (first
          | (at_lookup; refine wpList_lookup_votes _ rfl _ _ 136 rfl 3 63 lawI Try.underlying136 (zeroVote _) b m (latMap vs) rfl hown.out _ _ rfl hkey.out ?_; intro vv hvv2; have hvq : vv = (v1, v2, v3) := votD_inj (hvv2.symm.trans hlook.out); subst hvq; clear hvv2; simp only [vtV])
          | (at_builtin; refine appendVt _ rfl _ _ 53 rfl w3.heap.size Try.underlying53 _ ((latList vs).take k) rfl (ho.out.alloc _) wr.heap.size 1 v1 v2 v3 rfl E0.out E1.out E2.out (by rw [htl.out]; omega) (by simp; omega) ?_; intro g c9 w9 r1 r2 r3; have z1 := Lib.hid r1; have z2 := Lib.hid r2; clear r1 r2 r3))
        have u9 := Lib.hid (show Below w3.heap.size w3 w9 from (hbel.out.alloc hws (.cells #[.int .i64 v1, .int .i64 v2, .int .i64 v3] 63)).grown z2.out (by simp; omega) (fun j e => ((ho.out.alloc (.cells #[.int .i64 v1, .int .i64 v2, .int .i64 v3] 63)).lt j e).1))
        go_roundw
        case rel => exact ⟨k + 1, by omega, by go_num, Lib.hid (by rw [htk.out]; simpa using z1.out), u9⟩
        case measure => simp [intOf]; omega
      · have hkn : k = n3 := by omega
        have htk := Lib.hid (show (latList vs).take k = latList vs by rw [List.take_of_length_le (by rw [hn3.out]; omega)])
        have bx4 := Lib.hid (bx3.out.step hbel.out)
        have hsz3 := bx3.out.size
        clear hkn
        go_wp2_with fail
        go_ret2
        obtain ⟨A6, c6, e6, o6⟩ := OwnV.of_owns ho.out
        rw [htk.out] at e6 o6
        exact ⟨A6, _, c6, by rw [e6]; rfl, by rw [hr.out]; exact o6.fewer (by omega), bx4.out.below⟩
end Go.Proofs.Ythiegfbdmmpabaa
