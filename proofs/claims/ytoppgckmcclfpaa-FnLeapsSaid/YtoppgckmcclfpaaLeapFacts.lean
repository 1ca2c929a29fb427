/- What is proved here: plain facts on the rows of jump pointers. No conditions. -/
import Derived.Test.YtoppgckmcclfpaaLeapsSpec
namespace Go.Proofs.Ytoppgckmcclfpaa
open Go.RowKit

theorem leaps_prefix {ts : List Blk} {b : Nat} : ∀ i, (∀ j, j < i → 2 ^ j ≤ dep ts b) → leapsL ts b i = (List.range i).map fun j => ((anc ts b (2 ^ j) : Nat) : Int)
  | 0, _ => rfl
  | i + 1, h => by
    obtain ⟨e, hne⟩ := jmp_there (h i (by omega))
    rw [leapsL_yes hne, leaps_prefix i (fun j hj => h j (by omega)), List.range_succ, List.map_append, e]; rfl
theorem leaps_stop {d : Nat} (hd : d ≤ 23) : ∃ i, i ≤ 5 ∧ d < 2 ^ i ∧ ∀ j, j < i → 2 ^ j ≤ d := by
  have step : ∀ i, i ≤ 5 → (∀ j, j < i → 2 ^ j ≤ d) → ∃ i, i ≤ 5 ∧ d < 2 ^ i ∧ ∀ j, j < i → 2 ^ j ≤ d := by
    intro i
    induction h : 5 - i generalizing i with
    | zero =>
      intro h5 hall
      have : i = 5 := by omega
      subst this
      exact ⟨5, Nat.le_refl _, by have : (2 : Nat) ^ 5 = 32 := rfl; omega, hall⟩
    | succ n ih =>
      intro h5 hall
      by_cases hlt : d < 2 ^ i
      · exact ⟨i, h5, hlt, hall⟩
      · refine ih (i + 1) (by omega) (by omega) (fun j hj => ?_)
        by_cases e : j = i
        · subst e; omega
        · exact hall j (by omega)
  exact step 0 (by omega) (fun j hj => absurd hj (Nat.not_lt_zero _))
/-- A row, whole. -/
theorem leaps_row {ts : List Blk} (h : Tree ts) {b : Nat} (hb : b < ts.length) : ∃ i, i ≤ 5 ∧ dep ts b < 2 ^ i ∧ (∀ j, j < i → 2 ^ j ≤ dep ts b) ∧ leapsL ts b 5 = (List.range i).map fun j => ((anc ts b (2 ^ j) : Nat) : Int) := by
  have hd : dep ts b ≤ 23 := by have := dep_le h hb; have := h.few; omega
  obtain ⟨i, h5, hlt, hall⟩ := leaps_stop hd
  refine ⟨i, h5, hlt, hall, ?_⟩
  have := leapsL_rest hlt (5 - i)
  rw [show i + (5 - i) = 5 by omega] at this
  rw [this, leaps_prefix i hall]
theorem leaps_at {ts : List Blk} (h : Tree ts) {b k : Nat} (hb : b < ts.length) (hk : k < (leapsL ts b 5).length) : 2 ^ k ≤ dep ts b ∧ (leapsL ts b 5)[k]?.getD 0 = (anc ts b (2 ^ k) : Nat) := by
  obtain ⟨i, _, _, hall, e⟩ := leaps_row h hb
  rw [e] at hk ⊢
  have hki : k < i := by simpa using hk
  exact ⟨hall k hki, by simp [hki]⟩
theorem leaps_has {ts : List Blk} (h : Tree ts) {b k : Nat} (hb : b < ts.length) (hk : 2 ^ k ≤ dep ts b) : k < (leapsL ts b 5).length := by
  obtain ⟨i, _, hlt, _, e⟩ := leaps_row h hb
  rw [e]
  rcases Nat.lt_or_ge k i with h1 | h1
  · simpa using h1
  · have : 2 ^ i ≤ 2 ^ k := Nat.pow_le_pow_right (by decide) h1
    omega
theorem leaps_pos {ts : List Blk} (h : Tree ts) {b : Nat} (hb : b < ts.length) : decide (0 < (leapsL ts b 5).length) = decide (0 < dep ts b) := by
  obtain ⟨i, _, hlt, hall, e⟩ := leaps_row h hb
  rw [e, List.length_map, List.length_range]
  cases i with
  | zero => have : (2 : Nat) ^ 0 = 1 := rfl; rw [show dep ts b = 0 by omega]
  | succ i => have := hall 0 (by omega); have e0 : (2 : Nat) ^ 0 = 1 := rfl; rw [decide_eq_true (by omega), decide_eq_true (by omega)]
/-- A leap of 2^(k+1) is two leaps of 2^k. -/
theorem leap_twice {ts : List Blk} (h : Tree ts) {b k : Nat} (hb : b < ts.length) (hk : 2 ^ (k + 1) ≤ dep ts b) : 2 ^ k ≤ dep ts (anc ts b (2 ^ k)) ∧ anc ts (anc ts b (2 ^ k)) (2 ^ k) = anc ts b (2 ^ (k + 1)) := by
  have e : 2 ^ (k + 1) = 2 ^ k + 2 ^ k := by rw [Nat.pow_succ]; omega
  have := dep_anc h hb (2 ^ k) (by omega)
  exact ⟨by omega, by rw [e, anc_add]⟩
end Go.Proofs.Ytoppgckmcclfpaa
