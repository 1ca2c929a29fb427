/- What is proved here: the list of the last votes of the voters that are no liars, in the order of a pool, and that the sorted keys of a map that holds just those voters are its voters. No conditions but the pool's order. -/
import Derived.Test.YtlobjfipefibaaaVoteFacts
import Derived.Test.YtlobjfipefibaaaPutWalk
import Derived.Test.YtlobjfipefibaaaLatestMap
namespace Go.Proofs.Ytlobjfipefibaaa
open Go.RowKit

/-- Two lists with the same members, each once: sorted they are one. -/
theorem sortI_uniq {ss ts : List Int} (hs : ss.Nodup) (ht : ts.Pairwise (· < ·)) (h : ∀ x, x ∈ ss ↔ x ∈ ts) : sortI ss = ts := by
  have h3 : (sortI ss).Pairwise (· ≤ ·) := by
    have := List.pairwise_mergeSort (le := fun (x y : Int) => decide (x ≤ y)) (fun a b c hab hbc => by simp at *; omega) (fun a b => by simp; omega) ss
    exact this.imp (fun h => by simpa using h)
  have hn : ts.Nodup := ht.imp (fun h e => by omega)
  refine List.Perm.eq_of_pairwise (le := (· ≤ ·)) (fun a b _ _ h1 h2 => by omega) h3 (ht.imp (fun h => Int.le_of_lt h)) ?_
  exact (List.mergeSort_perm ss _).trans ((List.perm_ext_iff_of_nodup hs hn).2 h)

/-- Vote k is its voter's last. -/
def lastV (vs : List Vt) (k : Nat) : Bool := (k + 1 == vs.length) || !((getV vs (k + 1)).1 == (getV vs k).1)
/-- The last votes among the first k, without those of ls. -/
def latL (vs : List Vt) (ls : List Int) : Nat → List Vt
  | 0 => []
  | k + 1 => if !ls.contains (getV vs k).1 && lastV vs k then latL vs ls k ++ [getV vs k] else latL vs ls k
theorem latL_len (vs : List Vt) (ls : List Int) : ∀ k, (latL vs ls k).length ≤ k := by
  intro k
  induction k with
  | zero => simp [latL]
  | succ k ih => simp only [latL]; split; (rw [List.length_append, List.length_singleton]; omega); omega
theorem who_step {vs : List Vt} (hs : ∀ k, k < vs.length → k ≠ 0 → lessV (getV vs (k - 1)) (getV vs k) = true) {k : Nat} (hk : k + 1 < vs.length) : (getV vs k).1 ≤ (getV vs (k + 1)).1 := by
  have h := hs (k + 1) hk (by omega)
  simp only [Nat.add_sub_cancel, lessV, Bool.or_eq_true, Bool.and_eq_true, decide_eq_true_eq, beq_iff_eq] at h
  omega
/-- Voters rise with the votes. -/
theorem who_mono {vs : List Vt} (hs : ∀ k, k < vs.length → k ≠ 0 → lessV (getV vs (k - 1)) (getV vs k) = true) {i : Nat} : ∀ j, i ≤ j → j < vs.length → (getV vs i).1 ≤ (getV vs j).1 := by
  intro j
  induction j with
  | zero => intro h _; have : i = 0 := by omega
            subst this; exact Int.le_refl _
  | succ j ih =>
    intro h hj
    by_cases e : i = j + 1
    · subst e; exact Int.le_refl _
    · exact Int.le_trans (ih (by omega) (by omega)) (who_step hs hj)
theorem latL_mem {vs : List Vt} {ls : List Int} {v : Vt} : ∀ k, v ∈ latL vs ls k ↔ ∃ i, i < k ∧ getV vs i = v ∧ ls.contains v.1 = false ∧ lastV vs i = true := by
  intro k
  induction k with
  | zero => simp [latL]
  | succ k ih =>
    simp only [latL]
    by_cases hc : (!ls.contains (getV vs k).1 && lastV vs k) = true
    · rw [if_pos hc, List.mem_append, ih, List.mem_singleton]
      simp only [Bool.and_eq_true, Bool.not_eq_true'] at hc
      constructor
      · rintro (⟨i, h1, h2⟩ | h)
        · exact ⟨i, by omega, h2⟩
        · exact ⟨k, by omega, h.symm, by rw [h]; exact hc.1, hc.2⟩
      · rintro ⟨i, h1, h2, h3⟩
        by_cases e : i = k
        · subst e; exact Or.inr h2.symm
        · exact Or.inl ⟨i, by omega, h2, h3⟩
    · rw [if_neg hc, ih]
      constructor
      · rintro ⟨i, h1, h2⟩; exact ⟨i, by omega, h2⟩
      · rintro ⟨i, h1, h2, h3, h4⟩
        refine ⟨i, ?_, h2, h3, h4⟩
        by_cases e : i = k
        · subst e; exact absurd (by rw [h2, h3, h4]; rfl) hc
        · omega
theorem latL_up {vs : List Vt} {ls : List Int} (hs : ∀ k, k < vs.length → k ≠ 0 → lessV (getV vs (k - 1)) (getV vs k) = true) : ∀ k, k ≤ vs.length → ((latL vs ls k).map (·.1)).Pairwise (· < ·) := by
  intro k
  induction k with
  | zero => intro _; simp [latL]
  | succ k ih =>
    intro hk
    simp only [latL]
    split
    · rw [List.map_append, List.pairwise_append]
      refine ⟨ih (by omega), by simp, fun a ha b hb => ?_⟩
      simp only [List.map_cons, List.map_nil, List.mem_singleton] at hb
      subst hb
      obtain ⟨v, hv, rfl⟩ := List.mem_map.1 ha
      obtain ⟨i, h1, rfl, _, h4⟩ := (latL_mem k).1 hv
      have h5 := who_step hs (k := i) (by omega)
      have h6 := who_mono hs (i := i + 1) k (by omega) (by omega)
      simp only [lastV, Bool.or_eq_true, beq_iff_eq, Bool.not_eq_true', beq_eq_false_iff_ne] at h4
      rcases h4 with h4 | h4
      · omega
      · show (getV vs i).1 < (getV vs k).1
        omega
    · exact ih (by omega)
/-- Behind a voter's last vote there is no other of this voter. -/
theorem last_only {vs : List Vt} (hs : ∀ k, k < vs.length → k ≠ 0 → lessV (getV vs (k - 1)) (getV vs k) = true) {i : Nat} (h : lastV vs i = true) : ∀ j, i < j → j < vs.length → (getV vs j).1 ≠ (getV vs i).1 := by
  intro j h1 h2 e
  have h5 := who_step hs (k := i) (by omega)
  have h6 := who_mono hs (i := i + 1) j (by omega) h2
  simp only [lastV, Bool.or_eq_true, beq_iff_eq, Bool.not_eq_true', beq_eq_false_iff_ne] at h
  rcases h with h | h
  · omega
  · exact h (by omega)
/-- Who votes has a last vote. -/
theorem last_is {vs : List Vt} : ∀ n i, i + n = vs.length → i < vs.length → ∃ j, i ≤ j ∧ j < vs.length ∧ (getV vs j).1 = (getV vs i).1 ∧ lastV vs j = true := by
  intro n
  induction n with
  | zero => intro i h1 h2; omega
  | succ n ih =>
    intro i h1 h2
    cases hl : lastV vs i
    · simp only [lastV, Bool.or_eq_false_iff, beq_eq_false_iff_ne, Bool.not_eq_false', beq_iff_eq] at hl
      obtain ⟨j, a, b, c, d⟩ := ih (i + 1) (by omega) (by omega)
      exact ⟨j, by omega, b, by rw [c, hl.2], d⟩
    · exact ⟨i, Nat.le_refl _, h2, rfl, hl⟩
/-- The voters of that list: who votes, and is not in ls. -/
theorem latL_who {vs : List Vt} {ls : List Int} (x : Int) : x ∈ (latL vs ls vs.length).map (·.1) ↔ (∃ i, i < vs.length ∧ (getV vs i).1 = x) ∧ ls.contains x = false := by
  rw [List.mem_map]
  constructor
  · rintro ⟨v, hv, rfl⟩
    obtain ⟨i, h1, rfl, h3, _⟩ := (latL_mem _).1 hv
    exact ⟨⟨i, h1, rfl⟩, h3⟩
  · rintro ⟨⟨i, h1, rfl⟩, h2⟩
    obtain ⟨j, a, b, c, d⟩ := last_is (vs.length - i) i (by omega) h1
    exact ⟨getV vs j, (latL_mem _).2 ⟨j, b, rfl, by rw [c]; exact h2, d⟩, c⟩
end Go.Proofs.Ytlobjfipefibaaa

/- What is proved here: the keys of the map of last votes, the liars struck, are the voters of the list of last votes, and the map holds those votes. No conditions but the pool's order. -/
namespace Go.Proofs.Ytlobjfipefibaaa
open Go.RowKit Go.Maps

theorem del_isMap {D : DataW Unit} (h : IsMap D) (l : List Int) : ∀ j, IsMap (delL D l j)
  | 0 => h
  | j + 1 => (del_isMap h l j).del _
theorem take_get {l : List Int} {j : Nat} (h : j < l.length) : l.take (j + 1) = l.take j ++ [l[j]?.getD 0] := by
  rw [List.take_succ_eq_append_getElem h, List.getElem?_eq_getElem h, Option.getD_some]
theorem del_has (D : DataW Unit) (l : List Int) (x : Int) : ∀ j, j ≤ l.length → Maps.has (delL D l j) (.int .i64 x) = (Maps.has D (.int .i64 x) && !(l.take j).contains x) := by
  intro j
  induction j with
  | zero => intro _; simp [delL]
  | succ j ih =>
    intro hj
    rw [take_get (by omega)]
    simp only [delL]
    by_cases e : x = l[j]?.getD 0
    · rw [← e, has_del_same]; simp
    · rw [has_del_other (fun h => e (by injection h)), ih (by omega)]
      have e2 : (List.take j l ++ [l[j]?.getD 0]).contains x = (List.take j l).contains x := by
        rw [Bool.eq_iff_iff]; simp [e]
      rw [e2]
theorem del_at (D : DataW Unit) (l : List Int) (x : Int) (z : DataW Unit) : ∀ j, j ≤ l.length → x ∉ l.take j → (delL D l j).atKey (.int .i64 x) z = D.atKey (.int .i64 x) z := by
  intro j
  induction j with
  | zero => intro _ _; rfl
  | succ j ih =>
    intro hj hx
    rw [take_get (by omega), List.mem_append, List.mem_singleton] at hx
    simp only [delL]
    rw [atKey_del_other (fun h => hx (.inr (by injection h)))]
    exact ih (by omega) (fun h => hx (.inl h))

/-- The last votes of the voters that are no liars. -/
def latList (vs : List Vt) : List Vt := latL vs (putsL vs vs.length) vs.length
theorem latList_len (vs : List Vt) : (latList vs).length ≤ vs.length := latL_len _ _ _
/-- The map that the program holds when it has struck the liars. -/
def latMap (vs : List Vt) : DataW Unit := delL (latD vs vs.length) (putsL vs vs.length) (putsL vs vs.length).length
theorem latMap_has (vs : List Vt) (x : Int) : Maps.has (latMap vs) (.int .i64 x) = true ↔ x ∈ (latList vs).map (·.1) := by
  unfold latMap latList
  rw [latL_who, del_has _ _ _ _ (Nat.le_refl _), lat_has, List.take_length, Bool.and_eq_true, Bool.not_eq_true']
  refine and_congr_left fun _ => ?_
  unfold votedB
  simp only [List.any_eq_true, List.mem_range, beq_iff_eq]
theorem keys_eq {vs : List Vt} (hs : ∀ k, k < vs.length → k ≠ 0 → lessV (getV vs (k - 1)) (getV vs k) = true) {ss : List Int} (hn : ss.Nodup) (h : ∀ x, x ∈ ss ↔ Maps.has (latMap vs) (.int .i64 x) = true) : sortI ss = (latList vs).map (·.1) :=
  sortI_uniq hn (latL_up hs _ (Nat.le_refl _)) fun x => (h x).trans (latMap_has vs x)
theorem lat_lookup {vs : List Vt} (hs : ∀ k, k < vs.length → k ≠ 0 → lessV (getV vs (k - 1)) (getV vs k) = true) {j : Nat} (hj : j < (latList vs).length) (z : DataW Unit) : (latMap vs).atKey (.int .i64 (getV (latList vs) j).1) z = votD (getV (latList vs) j) := by
  have hm : getV (latList vs) j ∈ latList vs := by
    unfold getV; rw [List.getElem?_eq_getElem hj, Option.getD_some]; exact List.getElem_mem hj
  obtain ⟨i, hi, e, hc, hl⟩ := (latL_mem _).1 hm
  unfold latMap
  rw [del_at _ _ _ _ _ (Nat.le_refl _) (by rw [List.take_length]; intro hx; rw [List.contains_iff_mem.2 hx] at hc; cases hc)]
  rw [← e]
  exact lat_at _ hi rfl (fun k h1 h2 => last_only hs hl k h1 h2) z
theorem latList_in {vs : List Vt} {j : Nat} (hj : j < (latList vs).length) : ∃ i, i < vs.length ∧ getV vs i = getV (latList vs) j := by
  have hm : getV (latList vs) j ∈ latList vs := by
    unfold getV; rw [List.getElem?_eq_getElem hj, Option.getD_some]; exact List.getElem_mem hj
  obtain ⟨i, hi, e, _⟩ := (latL_mem _).1 hm
  exact ⟨i, hi, e⟩
theorem map_get1 (l : List Vt) {j : Nat} (h : j < l.length) : (l.map (·.1))[j]?.getD 0 = (getV l j).1 := by
  unfold getV; simp [h]
theorem take_getV {l : List Vt} {j : Nat} (h : j < l.length) : l.take (j + 1) = l.take j ++ [getV l j] := by
  unfold getV
  rw [List.take_succ_eq_append_getElem h, List.getElem?_eq_getElem h, Option.getD_some]
end Go.Proofs.Ytlobjfipefibaaa
