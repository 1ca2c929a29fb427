/- What is proved here: plain facts on votes and pools. No conditions. -/
import Derived.Test.YthiegfbdmmpabaaVotes
import Derived.Test.YthiegfbdmmpabaaTreeSpec
namespace Go.Proofs.Ythiegfbdmmpabaa
open Go.RowKit

/-- What the document asks of a vote, where the tree and the stakes are valid. -/
def voteOk (ts : List Blk) (ns : Nat) (v : Vt) : Bool := inB v.1 0 ((ns : Int) - 1) && (inB v.2.2 0 ((ts.length : Int) - 1) && (inB v.2.1 1 4000 && decide (sloZ ts v.2.2.toNat ≤ v.2.1)))
def lessV (a b : Vt) : Bool := decide (a.1 < b.1) || (a.1 == b.1 && (decide (a.2.1 < b.2.1) || (a.2.1 == b.2.1 && decide (a.2.2 < b.2.2))))
/-- Vote k of a pool: it is valid, and behind the one ahead of it. -/
def poolAt (ts : List Blk) (ns : Nat) (vs : List Vt) (k : Nat) : Bool := voteOk ts ns (getV vs k) && (decide (k = 0) || lessV (getV vs (k - 1)) (getV vs k))
def votesOk (ts : List Blk) (ss : List Int) (vs : List Vt) : Bool := goodT ts && goodB ss && (List.range vs.length).all fun k => voteOk ts ss.length (getV vs k)
def poolOk (ts : List Blk) (ss : List Int) (vs : List Vt) : Bool := goodT ts && goodB ss && decide (vs.length ≤ 60) && (List.range vs.length).all (poolAt ts ss.length vs)

theorem all_no {n k : Nat} {f : Nat → Bool} (hk : k < n) (h : f k = false) : (List.range n).all f = false := List.all_eq_false.2 ⟨k, List.mem_range.2 hk, by rw [h]; simp⟩
theorem all_yes {n : Nat} {f : Nat → Bool} (h : ∀ k, k < n → f k = true) : (List.range n).all f = true := List.all_eq_true.2 fun k hk => h k (List.mem_range.1 hk)
theorem all_at {n : Nat} {f : Nat → Bool} (h : (List.range n).all f = true) {k : Nat} (hk : k < n) : f k = true := List.all_eq_true.1 h k (List.mem_range.2 hk)

theorem voteOk_iff {ts : List Blk} {ns : Nat} {v : Vt} : voteOk ts ns v = true ↔ (∃ i : Nat, v.1 = i ∧ i < ns) ∧ (∃ b : Nat, v.2.2 = b ∧ b < ts.length ∧ sloZ ts b ≤ v.2.1) ∧ 1 ≤ v.2.1 ∧ v.2.1 ≤ 4000 := by
  unfold voteOk
  simp only [Bool.and_eq_true, inB_iff, decide_eq_true_iff]
  constructor
  · rintro ⟨⟨a, b⟩, ⟨c, d⟩, ⟨e, f⟩, g⟩
    exact ⟨⟨v.1.toNat, by omega, by omega⟩, ⟨v.2.2.toNat, by omega, by omega, g⟩, e, f⟩
  · rintro ⟨⟨i, hi, hi'⟩, ⟨b, hb, hb', hs⟩, e, f⟩
    exact ⟨⟨by omega, by omega⟩, ⟨by omega, by omega⟩, ⟨e, f⟩, by rw [hb, Int.toNat_natCast]; exact hs⟩

/-- The three-way comparison: -1, 0 or 1. -/
def cmpI (x y : Int) : Int := if x < y then -1 else if y < x then 1 else 0
def cmpV (a b : Vt) : Int := if cmpI a.1 b.1 ≠ 0 then cmpI a.1 b.1 else if cmpI a.2.1 b.2.1 ≠ 0 then cmpI a.2.1 b.2.1 else cmpI a.2.2 b.2.2
theorem cmpI_bd (x y : Int) : -1 ≤ cmpI x y ∧ cmpI x y ≤ 1 := by unfold cmpI; split <;> (try split) <;> omega
theorem cmp_less (a b : Vt) : lessV a b = decide (cmpV a b < 0) := by
  obtain ⟨a1, a2, a3⟩ := a
  obtain ⟨b1, b2, b3⟩ := b
  unfold lessV cmpV cmpI
  simp only
  rcases Int.lt_trichotomy a1 b1 with h | h | h
  · simp [h]
  · subst h
    rcases Int.lt_trichotomy a2 b2 with h | h | h
    · simp [h]
    · subst h
      rcases Int.lt_trichotomy a3 b3 with h | h | h
      · simp [h]
      · subst h; simp
      · have : ¬ a3 < b3 := by omega
        simp [this, h]
    · have h1 : ¬ a2 < b2 := by omega
      have h2 : ¬ a2 = b2 := by omega
      simp [h, h1, h2]
  · have h1 : ¬ a1 < b1 := by omega
    have h2 : ¬ a1 = b1 := by omega
    simp [h, h1, h2]
theorem votesOk_iff {ts : List Blk} {ss : List Int} {vs : List Vt} : votesOk ts ss vs = true ↔ (Tree ts ∧ goodB ss = true) ∧ ∀ k, k < vs.length → voteOk ts ss.length (getV vs k) = true := by
  unfold votesOk
  rw [Bool.and_eq_true, Bool.and_eq_true, goodT_iff, List.all_eq_true]
  exact ⟨fun ⟨h, g⟩ => ⟨h, fun k hk => g k (List.mem_range.2 hk)⟩, fun ⟨h, g⟩ => ⟨h, fun k hk => g k (List.mem_range.1 hk)⟩⟩
theorem poolOk_iff {ts : List Blk} {ss : List Int} {vs : List Vt} : poolOk ts ss vs = true ↔ ((Tree ts ∧ goodB ss = true) ∧ vs.length ≤ 60) ∧ (∀ k, k < vs.length → voteOk ts ss.length (getV vs k) = true) ∧ ∀ k, k < vs.length → k ≠ 0 → lessV (getV vs (k - 1)) (getV vs k) = true := by
  unfold poolOk
  rw [Bool.and_eq_true, Bool.and_eq_true, Bool.and_eq_true, goodT_iff, decide_eq_true_iff, List.all_eq_true]
  constructor
  · rintro ⟨h, g⟩
    have g' := fun k hk => g k (List.mem_range.2 hk)
    unfold poolAt at g'
    simp only [Bool.and_eq_true, Bool.or_eq_true, decide_eq_true_iff] at g'
    exact ⟨h, fun k hk => (g' k hk).1, fun k hk h0 => (g' k hk).2.resolve_left h0⟩
  · rintro ⟨h, g1, g2⟩
    refine ⟨h, fun k hk => ?_⟩
    have hk := List.mem_range.1 hk
    unfold poolAt
    rw [g1 k hk]
    by_cases h0 : k = 0
    · simp [h0]
    · simp [g2 k hk h0]
/-- The program looks at all votes first. -/
theorem pool_votes {ts : List Blk} {ss : List Int} {vs : List Vt} (h : votesOk ts ss vs = false) : poolOk ts ss vs = false := by
  cases hc : poolOk ts ss vs
  · rfl
  · obtain ⟨⟨h1, _⟩, h2, _⟩ := poolOk_iff.1 hc
    rw [votesOk_iff.2 ⟨h1, h2⟩] at h; cases h
theorem goodB_len {ss : List Int} (h : goodB ss = true) : 1 ≤ ss.length ∧ ss.length ≤ 10 := by
  unfold goodB at h; rw [Bool.and_eq_true, inB_iff] at h; omega
end Go.Proofs.Ythiegfbdmmpabaa
