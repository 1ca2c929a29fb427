/- What is proved here: plain facts on paths and lowest common ancestors. No conditions. -/
import Derived.Test.YthiegfbdmmpababMeet
namespace Go.Proofs.Ythiegfbdmmpabab
open Go.RowKit

theorem abv_lt {ts : List Blk} (h : Tree ts) {a b : Nat} (hb : b < ts.length) (hab : abv ts a b = true) : a < ts.length := by
  obtain ⟨_, e⟩ := abv_iff.1 hab
  rw [← e]; exact anc_lt h hb _
theorem meet_b {ts : List Blk} (h : Tree ts) {b : Nat} (hb : b < ts.length) : ∀ a, a < ts.length → abv ts (meet ts a b) b = true := by
  intro a
  induction a using Nat.strongRecOn with
  | ind a ih =>
    intro ha
    cases hab : abv ts a b
    · obtain ⟨h0, e⟩ := meet_up h ha hb hab
      have hp := (h.up ha h0).2
      rw [e]; exact ih _ hp (by omega)
    · rw [meet_here hab]; exact hab
theorem meet_a {ts : List Blk} (h : Tree ts) {b : Nat} (hb : b < ts.length) : ∀ a, a < ts.length → abv ts (meet ts a b) a = true := by
  intro a
  induction a using Nat.strongRecOn with
  | ind a ih =>
    intro ha
    cases hab : abv ts a b
    · obtain ⟨h0, e⟩ := meet_up h ha hb hab
      have hp := (h.up ha h0).2
      have := ih _ hp (by omega)
      have hd := (abv_iff.1 this).1
      rw [e, abv_par h ha (by rw [dep_step h ha h0]; omega)]; exact this
    · rw [meet_here hab]; exact abv_self ts a
theorem meet_deepest {ts : List Blk} (h : Tree ts) {b c : Nat} (hb : b < ts.length) (hcb : abv ts c b = true) : ∀ a, a < ts.length → abv ts c a = true → dep ts c ≤ dep ts (meet ts a b) := by
  intro a
  induction a using Nat.strongRecOn with
  | ind a ih =>
    intro ha hca
    cases hab : abv ts a b
    · obtain ⟨h0, e⟩ := meet_up h ha hb hab
      have hp := (h.up ha h0).2
      obtain ⟨hd, he⟩ := abv_iff.1 hca
      have hlt : dep ts c < dep ts a := by
        rcases Nat.lt_or_ge (dep ts c) (dep ts a) with h1 | h1
        · exact h1
        · rw [show dep ts a - dep ts c = 0 by omega] at he
          have : a = c := he
          rw [this, hcb] at hab; cases hab
      rw [e]
      exact ih _ hp (by omega) (by rw [← abv_par h ha hlt]; exact hca)
    · rw [meet_here hab]; exact (abv_iff.1 hca).1
theorem abv_meet {ts : List Blk} (h : Tree ts) {a b : Nat} (ha : a < ts.length) (hb : b < ts.length) : abv ts a b = ((meet ts a b : Nat) == (a : Int)) := by
  cases hab : abv ts a b
  · symm
    rw [beq_eq_false_iff_ne]
    intro e
    have e' : meet ts a b = a := by omega
    have := meet_b h hb a ha
    rw [e', hab] at this; cases this
  · rw [meet_here hab]; simp
/-- A block above k lies on the path at its depth. -/
theorem way_at {ts : List Blk} (h : Tree ts) {m k : Nat} (hk : k < ts.length) (hm : abv ts m k = true) : (wayV ts k)[dep ts m]?.getD 0 = (m : Int) := by
  obtain ⟨hd, e⟩ := abv_iff.1 hm
  have := wayV_get h hk (dep ts k - dep ts m) (Nat.sub_le _ _)
  rw [show dep ts k - (dep ts k - dep ts m) = dep ts m by omega, e] at this
  exact this
theorem way_anc {ts : List Blk} (h : Tree ts) {k i : Nat} (hk : k < ts.length) (hi : i ≤ dep ts k) : ∃ c : Nat, (wayV ts k)[i]?.getD 0 = (c : Int) ∧ c < ts.length ∧ dep ts c = i ∧ abv ts c k = true := by
  have hd := dep_anc h hk (dep ts k - i) (Nat.sub_le _ _)
  refine ⟨anc ts k (dep ts k - i), ?_, anc_lt h hk _, by omega, ?_⟩
  · have := wayV_get h hk (dep ts k - i) (Nat.sub_le _ _)
    rwa [show dep ts k - (dep ts k - i) = i by omega] at this
  · rw [abv_iff]
    exact ⟨by omega, by rw [show dep ts k - dep ts (anc ts k (dep ts k - i)) = dep ts k - i by omega]⟩
/-- Behind the lowest common ancestor the paths part. -/
theorem way_parts {ts : List Blk} (h : Tree ts) {a b : Nat} (ha : a < ts.length) (hb : b < ts.length) (h1 : dep ts (meet ts a b) + 1 ≤ dep ts a) (h2 : dep ts (meet ts a b) + 1 ≤ dep ts b) :
    ((wayV ts a)[dep ts (meet ts a b) + 1]?.getD 0 == (wayV ts b)[dep ts (meet ts a b) + 1]?.getD 0) = false := by
  obtain ⟨c, e1, _, hc, hca⟩ := way_anc h ha h1
  obtain ⟨c', e2, _, hc', hcb⟩ := way_anc h hb h2
  rw [e1, e2, beq_eq_false_iff_ne]
  intro e
  have : c = c' := by omega
  subst this
  have := meet_deepest h hb hcb a ha hca
  omega
/-- A block of the path and its parent. -/
theorem way_link {ts : List Blk} (h : Tree ts) {k i : Nat} (hk : k < ts.length) (h0 : 1 ≤ i) (hi : i ≤ dep ts k) : ∃ c : Nat, (wayV ts k)[i]?.getD 0 = (c : Int) ∧ c < ts.length ∧ parZ ts c = (wayV ts k)[i - 1]?.getD 0 := by
  have hd := dep_anc h hk (dep ts k - i) (Nat.sub_le _ _)
  have hc0 : anc ts k (dep ts k - i) ≠ 0 := fun e => by rw [e, dep_root] at hd; omega
  have g1 := wayV_get h hk (dep ts k - i) (Nat.sub_le _ _)
  have g2 := wayV_get h hk (dep ts k - i + 1) (by omega)
  rw [show dep ts k - (dep ts k - i) = i by omega] at g1
  rw [show dep ts k - (dep ts k - i + 1) = i - 1 by omega] at g2
  exact ⟨_, g1, anc_lt h hk _, by rw [g2, (h.up (anc_lt h hk _) hc0).1]; rfl⟩
theorem dec_lt_no {a b : Nat} (h : ¬ a < b) : decide ((a : Int) < (b : Int)) = false := by simp; omega
theorem dec_lt_yes {a b : Nat} (h : a < b) : decide ((a : Int) < (b : Int)) = true := by simp; omega
theorem dec_le_no {a b : Nat} (h : b < a) : decide ((a : Int) ≤ (b : Int)) = false := by simp; omega
theorem dec_neg_no (a : Nat) : decide ((a : Int) < 0) = false := by simp
theorem wrap_up1 {d d1 : Nat} (h : d1 = d + 1) (hd : d ≤ 1000) : IntKind.i64.wrap ((d : Int) + 1) = (d1 : Int) := by rw [IntKind.wrap_i64]; omega
theorem wrap_up2 {d d1 : Nat} (h : d1 = d + 1) (hd : d ≤ 1000) : wrap64 ((d : Int) + 1) = (d1 : Int) := by unfold wrap64; omega
theorem ndec_lt_no {a b : Nat} (h : ¬ a < b) : decide (a < b) = false := decide_eq_false h
theorem ndec_lt_yes {a b : Nat} (h : a < b) : decide (a < b) = true := decide_eq_true h
theorem ndec_le_no {a b : Nat} (h : b < a) : decide (a ≤ b) = false := decide_eq_false (by omega)
theorem okK_of {ts : List Blk} (h : Tree ts) {k : Nat} (hk : k < ts.length) : okK ts k = true := okK_iff.2 ⟨h, k, rfl, hk⟩
end Go.Proofs.Ythiegfbdmmpabab
