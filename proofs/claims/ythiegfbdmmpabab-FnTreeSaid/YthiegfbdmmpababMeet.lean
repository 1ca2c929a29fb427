/- What is proved here: plain facts on the lowest common ancestor of two blocks. No conditions. -/
import Derived.Test.YthiegfbdmmpababAbove
import Derived.ChangeKeysEq
namespace Go.Proofs.Ythiegfbdmmpabab
open Go.RowKit

def meetF (ts : List Blk) (b : Nat) : Nat → Nat → Nat
  | 0, a => a
  | f + 1, a => if abv ts a b then a else meetF ts b f (parN ts a)
def meet (ts : List Blk) (a b : Nat) : Nat := meetF ts b a a

theorem abv_root {ts : List Blk} (h : Tree ts) {b : Nat} (hb : b < ts.length) : abv ts 0 b = true := by
  rw [abv_iff, dep_root]
  refine ⟨Nat.zero_le _, ?_⟩
  have := dep_anc h hb (dep ts b) (Nat.le_refl _)
  exact dep_zero h (anc_lt h hb _) (by simpa using this)
theorem abv_self (ts : List Blk) (a : Nat) : abv ts a a = true := by
  rw [abv_iff]; exact ⟨Nat.le_refl _, by rw [Nat.sub_self]; rfl⟩
theorem meetF_enough {ts : List Blk} (h : Tree ts) {b : Nat} (hb : b < ts.length) : ∀ f g a, a < ts.length → a ≤ f → a ≤ g → meetF ts b f a = meetF ts b g a := by
  intro f
  induction f with
  | zero =>
    intro g a _ hf _
    have : a = 0 := by omega
    subst this
    cases g with
    | zero => rfl
    | succ g => simp only [meetF]; rw [if_pos (abv_root h hb)]
  | succ f ih =>
    intro g a ha hf hg
    by_cases h0 : a = 0
    · subst h0
      have e := abv_root h hb
      cases g with
      | zero => simp only [meetF]; rw [if_pos e]
      | succ g => simp only [meetF]; rw [if_pos e, if_pos e]
    · obtain ⟨_, hp⟩ := h.up ha h0
      obtain ⟨g, rfl⟩ : ∃ g', g = g' + 1 := ⟨g - 1, by omega⟩
      simp only [meetF]
      rw [ih g (parN ts a) (by omega) (by omega) (by omega)]
theorem meet_here {ts : List Blk} {a b : Nat} (h : abv ts a b = true) : meet ts a b = a := by
  unfold meet
  cases a with
  | zero => rfl
  | succ a => simp only [meetF]; rw [if_pos h]
theorem meet_up {ts : List Blk} (h : Tree ts) {a b : Nat} (ha : a < ts.length) (hb : b < ts.length) (hn : abv ts a b = false) : a ≠ 0 ∧ meet ts a b = meet ts (parN ts a) b := by
  have h0 : a ≠ 0 := fun e => by rw [e, abv_root h hb] at hn; cases hn
  obtain ⟨_, hp⟩ := h.up ha h0
  refine ⟨h0, ?_⟩
  obtain ⟨m, rfl⟩ : ∃ m, a = m + 1 := ⟨a - 1, by omega⟩
  show meetF ts b (m + 1) (m + 1) = _
  simp only [meetF]
  rw [if_neg (by rw [hn]; simp), meetF_enough h hb m (parN ts (m + 1)) (parN ts (m + 1)) (by omega) (by omega) (Nat.le_refl _)]
  rfl
/-- A block that lies no deeper than the parent of b is above b exactly if it is above the parent of b. -/
theorem abv_par {ts : List Blk} (h : Tree ts) {a b : Nat} (hb : b < ts.length) (hd : dep ts a < dep ts b) : abv ts a b = abv ts a (parN ts b) := by
  have h0 : b ≠ 0 := fun e => by rw [e, dep_root] at hd; omega
  have hs := dep_step h hb h0
  have e : anc ts b (dep ts b - dep ts a) = anc ts (parN ts b) (dep ts (parN ts b) - dep ts a) := by
    rw [show dep ts b - dep ts a = 1 + (dep ts (parN ts b) - dep ts a) by omega, anc_add]; rfl
  unfold abv
  rw [e, decide_eq_true (show dep ts a ≤ dep ts b by omega), decide_eq_true (show dep ts a ≤ dep ts (parN ts b) by omega)]
theorem meet_par {ts : List Blk} (h : Tree ts) {b : Nat} (hb : b < ts.length) : ∀ a, a < ts.length → dep ts a < dep ts b → meet ts a b = meet ts a (parN ts b) := by
  intro a
  induction a using Nat.strongRecOn with
  | ind a ih =>
    intro ha hd
    have h0 : b ≠ 0 := fun e => by rw [e, dep_root] at hd; omega
    have hpb := (h.up hb h0).2
    cases hab : abv ts a b
    · have hab' := hab
      rw [abv_par h hb hd] at hab'
      obtain ⟨ha0, e1⟩ := meet_up h ha hb hab
      obtain ⟨_, e2⟩ := meet_up h ha (show parN ts b < ts.length by omega) hab'
      have hpa := (h.up ha ha0).2
      have hda := dep_step h ha ha0
      rw [e1, e2]
      exact ih _ hpa (by omega) (by omega)
    · have hab' := hab
      rw [abv_par h hb hd] at hab'
      rw [meet_here hab, meet_here hab']
theorem meet_lift_b {ts : List Blk} (h : Tree ts) {a : Nat} (ha : a < ts.length) : ∀ (j b : Nat), b < ts.length → dep ts a + j ≤ dep ts b → meet ts a b = meet ts a (anc ts b j) := by
  intro j
  induction j with
  | zero => intro b _ _; rfl
  | succ j ih =>
    intro b hb hd
    have h0 : b ≠ 0 := fun e => by rw [e, dep_root] at hd; omega
    have hp := (h.up hb h0).2
    have hs := dep_step h hb h0
    rw [meet_par h hb a ha (by omega), ih (parN ts b) (by omega) (by omega), Nat.add_comm, anc_add]; rfl
theorem meet_lift_a {ts : List Blk} (h : Tree ts) {b : Nat} (hb : b < ts.length) : ∀ (j a : Nat), a < ts.length → dep ts b + j ≤ dep ts a → meet ts a b = meet ts (anc ts a j) b := by
  intro j
  induction j with
  | zero => intro a _ _; rfl
  | succ j ih =>
    intro a ha hd
    have hab : abv ts a b = false := by unfold abv; rw [decide_eq_false (by omega)]; rfl
    obtain ⟨h0, e⟩ := meet_up h ha hb hab
    have hp := (h.up ha h0).2
    have hs := dep_step h ha h0
    rw [e, ih (parN ts a) (by omega) (by omega), Nat.add_comm, anc_add]; rfl
/-- Two different blocks of one depth have the lowest common ancestor of their parents. -/
theorem meet_both {ts : List Blk} (h : Tree ts) {a b : Nat} (ha : a < ts.length) (hb : b < ts.length) (hd : dep ts a = dep ts b) (hne : a ≠ b) : a ≠ 0 ∧ b ≠ 0 ∧ meet ts a b = meet ts (parN ts a) (parN ts b) := by
  have hab : abv ts a b = false := by
    cases e : abv ts a b
    · rfl
    · rw [abv_iff, hd, Nat.sub_self] at e; exact absurd e.2.symm hne
  obtain ⟨a0, e⟩ := meet_up h ha hb hab
  have hs := dep_step h ha a0
  have b0 : b ≠ 0 := fun e => by rw [e, dep_root] at hd; omega
  have hp := (h.up ha a0).2
  refine ⟨a0, b0, ?_⟩
  rw [e, meet_par h hb (parN ts a) (by omega) (by omega)]
theorem meet_far {ts : List Blk} (h : Tree ts) : ∀ (j a b : Nat), a < ts.length → b < ts.length → dep ts a = dep ts b → j ≤ dep ts a → anc ts a j ≠ anc ts b j → meet ts a b = meet ts (anc ts a j) (anc ts b j) := by
  intro j
  induction j with
  | zero => intro a b _ _ _ _ _; rfl
  | succ j ih =>
    intro a b ha hb hd hj hne
    have hab : a ≠ b := fun e => hne (by rw [e])
    obtain ⟨a0, b0, e⟩ := meet_both h ha hb hd hab
    have pa := (h.up ha a0).2
    have pb := (h.up hb b0).2
    have sa := dep_step h ha a0
    have sb := dep_step h hb b0
    have ea : anc ts a (j + 1) = anc ts (parN ts a) j := by rw [Nat.add_comm, anc_add]; rfl
    have eb : anc ts b (j + 1) = anc ts (parN ts b) j := by rw [Nat.add_comm, anc_add]; rfl
    rw [e, ea, eb]
    rw [ea, eb] at hne
    exact ih _ _ (by omega) (by omega) (by omega) (by omega) hne
/-- Leaping on where the rows differ. -/
theorem meet_leap {ts : List Blk} (h : Tree ts) {a b k : Nat} (ha : a < ts.length) (hb : b < ts.length) (hd : dep ts a = dep ts b) (hne : jmp ts a k ≠ jmp ts b k) :
    ∃ x y : Nat, jmp ts a k = x ∧ jmp ts b k = y ∧ x < a ∧ y < b ∧ dep ts x = dep ts y ∧ x ≠ y ∧ meet ts a b = meet ts x y := by
  have hk : 2 ^ k ≤ dep ts a := by
    by_cases hk : 2 ^ k ≤ dep ts a
    · exact hk
    · refine absurd ?_ hne
      unfold jmp
      rw [if_neg hk, if_neg (by omega)]
  have hp : 0 < 2 ^ k := Nat.two_pow_pos k
  have da := dep_anc h ha _ hk
  have db := dep_anc h hb (2 ^ k) (by omega)
  have hne' : anc ts a (2 ^ k) ≠ anc ts b (2 ^ k) := by
    intro e
    apply hne
    unfold jmp
    rw [if_pos hk, if_pos (by omega), e]
  exact ⟨anc ts a (2 ^ k), anc ts b (2 ^ k), by unfold jmp; rw [if_pos hk], by unfold jmp; rw [if_pos (by omega)], anc_less h ha _ hp hk, anc_less h hb _ hp (by omega), by omega, hne', meet_far h _ _ _ ha hb hd hk hne'⟩
theorem meet_end {ts : List Blk} (h : Tree ts) {a b : Nat} (ha : a < ts.length) (hb : b < ts.length) (hd : dep ts a = dep ts b) (hne : a ≠ b) (hj : jmp ts a 0 = jmp ts b 0) : parZ ts a = (meet ts a b : Nat) := by
  obtain ⟨a0, b0, e⟩ := meet_both h ha hb hd hne
  rw [jmp_zero h ha, jmp_zero h hb, (h.up ha a0).1, (h.up hb b0).1] at hj
  have ep : parN ts a = parN ts b := by omega
  rw [e, ← ep, meet_here (abv_self ts _), (h.up ha a0).1]

/-- The rows of jump pointers of two blocks, compared. -/
def rowEq (ts : List Blk) (a b : Nat) : Bool := jmp ts a 0 == jmp ts b 0 && (jmp ts a 1 == jmp ts b 1 && (jmp ts a 2 == jmp ts b 2 && (jmp ts a 3 == jmp ts b 3 && jmp ts a 4 == jmp ts b 4)))
def rowV (ts : List Blk) (a : Nat) : Value := .agg #[.int .i64 (jmp ts a 0), .int .i64 (jmp ts a 1), .int .i64 (jmp ts a 2), .int .i64 (jmp ts a 3), .int .i64 (jmp ts a 4)]
theorem underInt : Try.prog.underlying 3 = some (.int .i64) := Try.underlying3
theorem infoInt : ∃ i, Try.prog.info? 3 = some i ∧ Try.prog.cellsOf 3 = 1 := by
  obtain ⟨i, hi, _⟩ := info_parts info3
  exact ⟨i, hi, by kernel_rfl⟩
set_option linter.unusedSimpArgs false in
theorem row_equal (x0 x1 x2 x3 x4 y0 y1 y2 y3 y4 : Int) (w : World) :
    (Op.equalIn 10000 114 (.agg #[.int .i64 x0, .int .i64 x1, .int .i64 x2, .int .i64 x3, .int .i64 x4]) (.agg #[.int .i64 y0, .int .i64 y1, .int .i64 y2, .int .i64 y3, .int .i64 y4])).run Try.prog w = .ok (x0 == y0 && (x1 == y1 && (x2 == y2 && (x3 == y3 && x4 == y4)))) w := by
  obtain ⟨i, hi, hc⟩ := infoInt
  have hp : ∀ (off : Nat) (xs : Array Value) (v : Value), xs[off]? = some v → (part 3 xs off).run Try.prog w = .ok v w := fun off xs v hx => run_part_plain w (by kernel_rfl) hx
  have he : ∀ a b : Int, (Op.equalIn 9999 3 (.int .i64 a) (.int .i64 b)).run Try.prog w = .ok (a == b) w := fun a b => run_equalIn_int w 9998 3 .i64 .i64 a b underInt
  rw [run_equalIn_array (P := Try.prog) w 9999 _ _ Try.underlying114 hi, hc]
  rw [show List.range 5 = [0, 1, 2, 3, 4] from rfl]
  cases e0 : (x0 == y0) <;> cases e1 : (x1 == y1) <;> cases e2 : (x2 == y2) <;> cases e3 : (x3 == y3) <;> cases e4 : (x4 == y4) <;>
    simp [Op.eqItems, Sem.run_bind, hp 0 #[.int .i64 x0, .int .i64 x1, .int .i64 x2, .int .i64 x3, .int .i64 x4] _ rfl, hp 1 #[.int .i64 x0, .int .i64 x1, .int .i64 x2, .int .i64 x3, .int .i64 x4] _ rfl, hp 2 #[.int .i64 x0, .int .i64 x1, .int .i64 x2, .int .i64 x3, .int .i64 x4] _ rfl, hp 3 #[.int .i64 x0, .int .i64 x1, .int .i64 x2, .int .i64 x3, .int .i64 x4] _ rfl, hp 4 #[.int .i64 x0, .int .i64 x1, .int .i64 x2, .int .i64 x3, .int .i64 x4] _ rfl, hp 0 #[.int .i64 y0, .int .i64 y1, .int .i64 y2, .int .i64 y3, .int .i64 y4] _ rfl, hp 1 #[.int .i64 y0, .int .i64 y1, .int .i64 y2, .int .i64 y3, .int .i64 y4] _ rfl, hp 2 #[.int .i64 y0, .int .i64 y1, .int .i64 y2, .int .i64 y3, .int .i64 y4] _ rfl, hp 3 #[.int .i64 y0, .int .i64 y1, .int .i64 y2, .int .i64 y3, .int .i64 y4] _ rfl, hp 4 #[.int .i64 y0, .int .i64 y1, .int .i64 y2, .int .i64 y3, .int .i64 y4] _ rfl, he, e0, e1, e2, e3, e4]
end Go.Proofs.Ythiegfbdmmpabab
