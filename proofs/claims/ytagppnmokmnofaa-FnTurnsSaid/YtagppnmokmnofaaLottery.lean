/- What is proved here: plain facts on the seeds and the lottery of chapter 2. No conditions. -/
import Derived.Test.YtagppnmokmnofaaWalksE
namespace Go.Proofs.Ytagppnmokmnofaa
open Go.RowKit

def seedB (s : Int) : Bool := inB s 1 65520
def nxt (s : Int) : Int := 17364 * s % 65521
theorem nxt_bd (s : Int) : 0 ≤ nxt s ∧ nxt s ≤ 65520 := by unfold nxt; omega
def seedN (s : Int) : Nat → Int
  | 0 => s
  | k + 1 => nxt (seedN s k)
theorem seedN_bd {s : Int} (h0 : 0 ≤ s) (h1 : s ≤ 65520) (k : Nat) : 0 ≤ seedN s k ∧ seedN s k ≤ 65520 := by
  cases k with
  | zero => exact ⟨h0, h1⟩
  | succ k => exact nxt_bd _
def nextI (s : Int) : Int := if seedB s = true then nxt s else 0

def lotP (xs : List Int) (n : Int) (k : Nat) : Bool := decide (n < sumL (xs.take (k + 1)))
def lotF (xs : List Int) (n : Int) : Option Nat := (List.range xs.length).find? (lotP xs n)
/-- The voter that the number n draws. -/
def lotR (xs : List Int) (n : Int) : Int := (((lotF xs n).getD 0 : Nat) : Int)
theorem lotF_some {xs : List Int} {n : Int} {k : Nat} (hk : k < xs.length) (h : n < sumL (xs.take (k + 1))) (hp : ∀ j, j < k → sumL (xs.take (j + 1)) ≤ n) : lotF xs n = some k := by
  unfold lotF
  rw [List.find?_range_eq_some]
  refine ⟨by simp [lotP, h], by simpa using hk, fun j hj => ?_⟩
  have := hp j hj
  simp [lotP]; omega
theorem lotR_some {xs : List Int} {n : Int} {k : Nat} (hk : k < xs.length) (h : n < sumL (xs.take (k + 1))) (hp : ∀ j, j < k → sumL (xs.take (j + 1)) ≤ n) : lotR xs n = (k : Int) := by
  unfold lotR; rw [lotF_some hk h hp]; rfl
def lotB (xs : List Int) (n : Int) : Bool := goodB xs && (decide (0 ≤ n) && decide (n < sumL xs))
def lotI (xs : List Int) (n : Int) : Int := if lotB xs n = true then lotR xs n else 0

theorem sumL_mono {xs : List Int} (hb : Bds xs) : ∀ d j, j + d ≤ xs.length → sumL (xs.take j) ≤ sumL (xs.take (j + d)) := by
  intro d
  induction d with
  | zero => intro j _; exact Int.le_refl _
  | succ d ih =>
    intro j h
    have h1 := ih j (by omega)
    have h2 := hb (j + d) (by omega)
    rw [show j + (d + 1) = (j + d) + 1 by omega, sumL_step (by omega)]
    omega
theorem sumL_le {xs : List Int} (hb : Bds xs) {i j : Nat} (h : i ≤ j) (hj : j ≤ xs.length) : sumL (xs.take i) ≤ sumL (xs.take j) := by
  have := sumL_mono hb (j - i) i (by omega)
  rwa [show i + (j - i) = j by omega] at this
theorem sumL_whole {xs : List Int} (hb : Bds xs) {j : Nat} (hj : j ≤ xs.length) : sumL (xs.take j) ≤ sumL xs := by
  have := sumL_le hb hj (Nat.le_refl _)
  rwa [sumL_end (Nat.le_refl _)] at this
theorem good_len {xs : List Int} (h : goodB xs = true) : 1 ≤ xs.length ∧ xs.length ≤ 10 := by
  have := (goodB_iff.1 h).1; omega
theorem good_sum {xs : List Int} (h : goodB xs = true) : 1 ≤ sumL xs ∧ sumL xs ≤ 10000 := by
  have hl := good_len h
  have hb := bds_of_good h
  have h1 := sumL_whole hb (j := 1) hl.1
  have h2 := sumL_step (s := xs) (k := 0) (by omega)
  have h3 := allB_get (goodB_iff.1 h).2 (k := 0) (by omega)
  have h4 := (sumL_bd hb xs.length (Nat.le_refl _)).2
  rw [sumL_end (Nat.le_refl _)] at h4
  have h5 : sumL (xs.take 0) = 0 := rfl
  have h6 : (1000 : Int) * (xs.length : Int) ≤ 10000 := by omega
  rw [h5] at h2
  have h7 : sumL (xs.take 1) = xs[0]?.getD 0 := by rw [show (1 : Nat) = 0 + 1 from rfl, h2]; omega
  omega
/-- A number of the lottery draws a voter: the one whose part of the line it lies in. -/
theorem lot_spec {xs : List Int} (hg : goodB xs = true) {n : Int} (h0 : 0 ≤ n) (h1 : n < sumL xs) : ∃ k : Nat, k < xs.length ∧ lotR xs n = (k : Int) ∧ sumL (xs.take k) ≤ n ∧ n < sumL (xs.take (k + 1)) := by
  have hl := good_len hg
  cases e : lotF xs n with
  | none =>
    unfold lotF at e
    rw [List.find?_range_eq_none] at e
    have := e (xs.length - 1) (by omega)
    rw [lotP, show xs.length - 1 + 1 = xs.length by omega, sumL_end (Nat.le_refl _)] at this
    simp at this; omega
  | some k =>
    have e' := e
    unfold lotF at e
    rw [List.find?_range_eq_some] at e
    obtain ⟨p1, p2, p3⟩ := e
    have p1' : n < sumL (xs.take (k + 1)) := by simpa [lotP] using p1
    refine ⟨k, by simpa using p2, by unfold lotR; rw [e']; rfl, ?_, p1'⟩
    by_cases hk : k = 0
    · subst hk; exact h0
    · have := p3 (k - 1) (by omega)
      rw [lotP, show k - 1 + 1 = k by omega] at this
      simpa using this
theorem lot_iff {xs : List Int} (hg : goodB xs = true) {n : Int} (h0 : 0 ≤ n) (h1 : n < sumL xs) {k : Nat} (hk : k < xs.length) : lotR xs n = (k : Int) ↔ sumL (xs.take k) ≤ n ∧ n < sumL (xs.take (k + 1)) := by
  obtain ⟨j, hj, e, g1, g2⟩ := lot_spec hg h0 h1
  have hb := bds_of_good hg
  constructor
  · intro h
    have : j = k := by omega
    subst this; exact ⟨g1, g2⟩
  · rintro ⟨f1, f2⟩
    rw [e]
    have : j = k := by
      rcases Nat.lt_trichotomy j k with h | h | h
      · have := sumL_le hb (i := j + 1) (j := k) (by omega) (by omega); omega
      · exact h
      · have := sumL_le hb (i := k + 1) (j := j) (by omega) (by omega); omega
    rw [this]
theorem lot_range {xs : List Int} (hg : goodB xs = true) {n : Int} (h0 : 0 ≤ n) (h1 : n < sumL xs) : 0 ≤ lotR xs n ∧ lotR xs n < (xs.length : Int) := by
  obtain ⟨j, hj, e, _⟩ := lot_spec hg h0 h1
  rw [e]; omega

/-- The proposer of a seed. -/
def propI (xs : List Int) (s : Int) : Int := lotR xs (s % sumL xs)
theorem prop_arg {xs : List Int} (hg : goodB xs = true) (s : Int) : 0 ≤ s % sumL xs ∧ s % sumL xs < sumL xs := by
  have := good_sum hg
  exact ⟨Int.emod_nonneg _ (by omega), Int.emod_lt_of_pos _ (by omega)⟩
theorem prop_range {xs : List Int} (hg : goodB xs = true) (s : Int) : 0 ≤ propI xs s ∧ propI xs s < (xs.length : Int) :=
  lot_range hg (prop_arg hg s).1 (prop_arg hg s).2
/-- The proposer of a slot. -/
def turnI (xs : List Int) (s : Int) (k : Nat) : Int := propI xs (seedN s (k + 1))
def turnsL (xs : List Int) (s : Int) (n : Nat) : List Int := (List.range n).map (turnI xs s)
theorem turnsL_len (xs : List Int) (s : Int) (n : Nat) : (turnsL xs s n).length = n := by simp [turnsL]
theorem turnsL_get {xs : List Int} {s : Int} {n k : Nat} (h : k < n) : (turnsL xs s n)[k]?.getD 0 = turnI xs s k := by simp [turnsL, h]
theorem turnsL_step (xs : List Int) (s : Int) (n : Nat) : turnsL xs s (n + 1) = turnsL xs s n ++ [turnI xs s n] := by simp [turnsL, List.range_succ]

def tgB (xs : List Int) (s : Int) : Bool := goodB xs && seedB s
def turnB (xs : List Int) (s slot : Int) : Bool := tgB xs s && inB slot 0 100
def turnR (xs : List Int) (s slot : Int) : Int := if turnB xs s slot = true then turnI xs s slot.toNat else 0
def turnsR (xs : List Int) (s many : Int) : List Int := if turnB xs s many = true then turnsL xs s many.toNat else []
theorem turnsR_len (xs : List Int) (s many : Int) : (turnsR xs s many).length ≤ 100 := by
  unfold turnsR
  split
  · rename_i h
    unfold turnB at h
    rw [Bool.and_eq_true, inB_iff] at h
    rw [turnsL_len]; omega
  · simp

def untilP (xs : List Int) (s who : Int) (k : Nat) : Bool := turnI xs s k == who
def untilF (xs : List Int) (s who : Int) : Option Nat := (List.range 101).find? (untilP xs s who)
theorem untilF_some {xs : List Int} {s who : Int} {k : Nat} (hk : k < 101) (h : (turnI xs s k == who) = true) (hp : ∀ j, j < k → (turnI xs s j == who) = false) : untilF xs s who = some k := by
  unfold untilF
  rw [List.find?_range_eq_some]
  refine ⟨h, by simpa using hk, fun j hj => ?_⟩
  unfold untilP; rw [hp j hj]; rfl
theorem untilF_none {xs : List Int} {s who : Int} (hp : ∀ j, j < 101 → (turnI xs s j == who) = false) : untilF xs s who = none := by
  unfold untilF
  rw [List.find?_range_eq_none]
  intro j hj
  unfold untilP; rw [hp j hj]; rfl
def whoB (xs : List Int) (s who : Int) : Bool := tgB xs s && inB who 0 ((xs.length : Int) - 1)
def untilB (xs : List Int) (s who : Int) : Bool := whoB xs s who && (untilF xs s who).isSome
def untilI (xs : List Int) (s who : Int) : Int := if untilB xs s who = true then (((untilF xs s who).getD 0 : Nat) : Int) else 0
theorem tgB_parts {xs : List Int} {s : Int} (h : tgB xs s = true) : goodB xs = true ∧ 1 ≤ s ∧ s ≤ 65520 := by
  unfold tgB seedB at h
  rw [Bool.and_eq_true, inB_iff] at h
  exact ⟨h.1, h.2.1, h.2.2⟩
end Go.Proofs.Ytagppnmokmnofaa
