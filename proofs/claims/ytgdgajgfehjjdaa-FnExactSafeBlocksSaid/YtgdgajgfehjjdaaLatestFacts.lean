/- What is proved here: the keys of the map of last votes, the liars struck, are the voters of the list of last votes, and the map holds those votes. No conditions but the pool's order. -/
import Derived.Test.YtgdgajgfehjjdaaLatestMap
import Derived.Test.YtgdgajgfehjjdaaLatestPlain
namespace Go.Proofs.Ytgdgajgfehjjdaa
open Go.RowKit Go.Maps

theorem del_isMap {D : DataW Unit} (h : IsMap D) (l : List Int) : ∀ j, IsMap (delL D l j)
  | 0 => h
  | j + 1 => (del_isMap h l j).del _
theorem take_get {l : List Int} {j : Nat} (h : j < l.length) : l.take (j + 1) = l.take j ++ [l[j]?.getD 0] := by
  rw [List.take_succ_eq_append_getElem h, List.getElem?_eq_getElem h, Option.getD_some]
theorem del_has (D : DataW Unit) (l : List Int) (x : Int) : ∀ j, j ≤ l.length → Maps.has (delL D l j) (.int .i64 x) = (Maps.has D (.int .i64 x) && !(l.take j).contains x) := by
  intro j
  induction j with
  | zero => intro _; simp [delL]
  | succ j ih =>
    intro hj
    rw [take_get (by omega)]
    simp only [delL]
    by_cases e : x = l[j]?.getD 0
    · rw [← e, has_del_same]; simp
    · rw [has_del_other (fun h => e (by injection h)), ih (by omega)]
      have e2 : (List.take j l ++ [l[j]?.getD 0]).contains x = (List.take j l).contains x := by
        rw [Bool.eq_iff_iff]; simp [e]
      rw [e2]
theorem del_at (D : DataW Unit) (l : List Int) (x : Int) (z : DataW Unit) : ∀ j, j ≤ l.length → x ∉ l.take j → (delL D l j).atKey (.int .i64 x) z = D.atKey (.int .i64 x) z := by
  intro j
  induction j with
  | zero => intro _ _; rfl
  | succ j ih =>
    intro hj hx
    rw [take_get (by omega), List.mem_append, List.mem_singleton] at hx
    simp only [delL]
    rw [atKey_del_other (fun h => hx (.inr (by injection h)))]
    exact ih (by omega) (fun h => hx (.inl h))

/-- The last votes of the voters that are no liars. -/
def latList (vs : List Vt) : List Vt := latL vs (putsL vs vs.length) vs.length
theorem latList_len (vs : List Vt) : (latList vs).length ≤ vs.length := latL_len _ _ _
/-- The map that the program holds when it has struck the liars. -/
def latMap (vs : List Vt) : DataW Unit := delL (latD vs vs.length) (putsL vs vs.length) (putsL vs vs.length).length
theorem latMap_has (vs : List Vt) (x : Int) : Maps.has (latMap vs) (.int .i64 x) = true ↔ x ∈ (latList vs).map (·.1) := by
  unfold latMap latList
  rw [latL_who, del_has _ _ _ _ (Nat.le_refl _), lat_has, List.take_length, Bool.and_eq_true, Bool.not_eq_true']
  refine and_congr_left fun _ => ?_
  unfold votedB
  simp only [List.any_eq_true, List.mem_range, beq_iff_eq]
theorem keys_eq {vs : List Vt} (hs : ∀ k, k < vs.length → k ≠ 0 → lessV (getV vs (k - 1)) (getV vs k) = true) {ss : List Int} (hn : ss.Nodup) (h : ∀ x, x ∈ ss ↔ Maps.has (latMap vs) (.int .i64 x) = true) : sortI ss = (latList vs).map (·.1) :=
  sortI_uniq hn (latL_up hs _ (Nat.le_refl _)) fun x => (h x).trans (latMap_has vs x)
theorem lat_lookup {vs : List Vt} (hs : ∀ k, k < vs.length → k ≠ 0 → lessV (getV vs (k - 1)) (getV vs k) = true) {j : Nat} (hj : j < (latList vs).length) (z : DataW Unit) : (latMap vs).atKey (.int .i64 (getV (latList vs) j).1) z = votD (getV (latList vs) j) := by
  have hm : getV (latList vs) j ∈ latList vs := by
    unfold getV; rw [List.getElem?_eq_getElem hj, Option.getD_some]; exact List.getElem_mem hj
  obtain ⟨i, hi, e, hc, hl⟩ := (latL_mem _).1 hm
  unfold latMap
  rw [del_at _ _ _ _ _ (Nat.le_refl _) (by rw [List.take_length]; intro hx; rw [List.contains_iff_mem.2 hx] at hc; cases hc)]
  rw [← e]
  exact lat_at _ hi rfl (fun k h1 h2 => last_only hs hl k h1 h2) z
theorem latList_in {vs : List Vt} {j : Nat} (hj : j < (latList vs).length) : ∃ i, i < vs.length ∧ getV vs i = getV (latList vs) j := by
  have hm : getV (latList vs) j ∈ latList vs := by
    unfold getV; rw [List.getElem?_eq_getElem hj, Option.getD_some]; exact List.getElem_mem hj
  obtain ⟨i, hi, e, _⟩ := (latL_mem _).1 hm
  exact ⟨i, hi, e⟩
theorem map_get1 (l : List Vt) {j : Nat} (h : j < l.length) : (l.map (·.1))[j]?.getD 0 = (getV l j).1 := by
  unfold getV; simp [h]
theorem take_getV {l : List Vt} {j : Nat} (h : j < l.length) : l.take (j + 1) = l.take j ++ [getV l j] := by
  unfold getV
  rw [List.take_succ_eq_append_getElem h, List.getElem?_eq_getElem h, Option.getD_some]
end Go.Proofs.Ytgdgajgfehjjdaa
