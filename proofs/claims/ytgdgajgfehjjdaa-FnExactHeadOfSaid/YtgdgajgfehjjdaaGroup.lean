/- What is proved here: plain facts on rising lists of integers and on sums. No conditions. -/
import Derived.Test.YtgdgajgfehjjdaaWords
namespace Go.Proofs.Ytgdgajgfehjjdaa
open Go.RowKit

def risAt (xs : List Int) (lo hi : Int) (k : Nat) : Bool := inB (xs[k]?.getD 0) lo hi && (k == 0 || decide (xs[k-1]?.getD 0 < xs[k]?.getD 0))
def risB (xs : List Int) (lo hi : Int) : Bool := (List.range xs.length).all fun k => risAt xs lo hi k
theorem risB_iff {xs : List Int} {lo hi : Int} : risB xs lo hi = true ↔ ∀ k, k < xs.length → risAt xs lo hi k = true := by
  simp [risB, List.all_eq_true]
theorem risAt_iff {xs : List Int} {lo hi : Int} {k : Nat} : risAt xs lo hi k = true ↔ (lo ≤ xs[k]?.getD 0 ∧ xs[k]?.getD 0 ≤ hi) ∧ (0 < k → xs[k-1]?.getD 0 < xs[k]?.getD 0) := by
  unfold risAt
  rw [Bool.and_eq_true, inB_iff, Bool.or_eq_true, beq_iff_eq, decide_eq_true_iff]
  constructor
  · rintro ⟨h, h2⟩; exact ⟨h, fun hk => by rcases h2 with h2 | h2; omega; exact h2⟩
  · rintro ⟨h, h2⟩; exact ⟨h, by by_cases e : k = 0; exact .inl e; exact .inr (h2 (by omega))⟩
theorem risB_no {xs : List Int} {lo hi : Int} {k : Nat} (hk : k < xs.length) (h : risAt xs lo hi k = false) : risB xs lo hi = false := by
  cases e : risB xs lo hi
  · rfl
  · rw [risB_iff] at e; rw [e k hk] at h; cases h
theorem risB_in {xs : List Int} {lo hi : Int} (h : risB xs lo hi = true) {k : Nat} (hk : k < xs.length) : lo ≤ xs[k]?.getD 0 ∧ xs[k]?.getD 0 ≤ hi :=
  (risAt_iff.1 (risB_iff.1 h k hk)).1
theorem ris_mono {xs : List Int} {lo hi : Int} (h : risB xs lo hi = true) : ∀ d k, k + d < xs.length → xs[k]?.getD 0 ≤ xs[k+d]?.getD 0 := by
  intro d
  induction d with
  | zero => intro k _; exact Int.le_refl _
  | succ d ih =>
    intro k hk
    have h1 := ih k (by omega)
    have h2 := (risAt_iff.1 (risB_iff.1 h (k + (d + 1)) hk)).2 (by omega)
    rw [show k + (d + 1) - 1 = k + d by omega] at h2
    omega
/-- Rising within 0..9 with a last element below n: rising within 0..n-1. -/
theorem ris_of_last {xs : List Int} {n : Int} (h : risB xs 0 9 = true) (hl : xs[xs.length - 1]?.getD 0 < n) : risB xs 0 (n - 1) = true := by
  rw [risB_iff]
  intro k hk
  have h1 := risAt_iff.1 (risB_iff.1 h k hk)
  have h2 := ris_mono h (xs.length - 1 - k) k (by omega)
  rw [show k + (xs.length - 1 - k) = xs.length - 1 by omega] at h2
  exact risAt_iff.2 ⟨⟨h1.1.1, by omega⟩, h1.2⟩
theorem ris_not_last {xs : List Int} {n : Int} (h0 : 0 < xs.length) (hl : ¬ xs[xs.length - 1]?.getD 0 < n) : risB xs 0 (n - 1) = false := by
  cases e : risB xs 0 (n - 1)
  · rfl
  · have := risB_in e (k := xs.length - 1) (by omega); omega
theorem ris_wider {xs : List Int} {lo hi hi' : Int} (h : risB xs lo hi = true) (hh : hi ≤ hi') : risB xs lo hi' = true := by
  rw [risB_iff]
  intro k hk
  have h1 := risAt_iff.1 (risB_iff.1 h k hk)
  exact risAt_iff.2 ⟨⟨h1.1.1, by omega⟩, h1.2⟩
theorem ris_nil {lo hi : Int} : risB [] lo hi = true := rfl

/-- A group of the voters of some stakes. -/
def ofB (s who : List Int) : Bool := goodB s && risB who 0 ((s.length : Int) - 1)
theorem goodB_iff {s : List Int} : goodB s = true ↔ (1 ≤ (s.length : Int) ∧ (s.length : Int) ≤ 10) ∧ allB s 1 1000 = true := by
  unfold goodB; rw [Bool.and_eq_true, inB_iff]
theorem allB_get {s : List Int} {lo hi : Int} (h : allB s lo hi = true) {k : Nat} (hk : k < s.length) : lo ≤ s[k]?.getD 0 ∧ s[k]?.getD 0 ≤ hi := by
  unfold allB at h
  rw [List.all_eq_true] at h
  rw [List.getElem?_eq_getElem hk, Option.getD_some]
  exact inB_iff.1 (h _ (List.getElem_mem hk))

def sumL (s : List Int) : Int := s.sum
theorem sumL_step {s : List Int} {k : Nat} (hk : k < s.length) : sumL (s.take (k + 1)) = sumL (s.take k) + s[k]?.getD 0 := by
  rw [List.take_succ_eq_append_getElem hk, List.getElem?_eq_getElem hk, Option.getD_some]; simp only [sumL, List.sum_append, List.sum_cons, List.sum_nil, Int.add_zero]
theorem sumL_bd {s : List Int} {m : Int} (h : ∀ k, k < s.length → 0 ≤ s[k]?.getD 0 ∧ s[k]?.getD 0 ≤ m) : ∀ k, k ≤ s.length → 0 ≤ sumL (s.take k) ∧ sumL (s.take k) ≤ m * k := by
  intro k
  induction k with
  | zero => intro _; simp [sumL]
  | succ k ih =>
    intro hk
    have h1 := ih (by omega)
    have h2 := h k (by omega)
    rw [sumL_step (by omega)]
    have e : m * ((k + 1 : Nat) : Int) = m * k + m := by rw [Int.natCast_add, Int.mul_add]; simp
    rw [e]; omega
theorem sumL_end {s : List Int} {k : Nat} (h : s.length ≤ k) : sumL (s.take k) = sumL s := by rw [List.take_of_length_le h]
/-- The weights of some voters, one by one. -/
def stakesOf (s who : List Int) : List Int := who.map fun k => s[k.toNat]?.getD 0
def wtL (s who : List Int) : Int := sumL (stakesOf s who)
theorem stakesOf_len (s who : List Int) : (stakesOf s who).length = who.length := by simp [stakesOf]
theorem stakesOf_get (s who : List Int) {k : Nat} (hk : k < who.length) : (stakesOf s who)[k]?.getD 0 = s[(who[k]?.getD 0).toNat]?.getD 0 := by
  simp [stakesOf, List.getElem?_eq_getElem hk]
def greatB (s who : List Int) : Bool := decide (2 * sumL s ≤ 3 * wtL s who)
end Go.Proofs.Ytgdgajgfehjjdaa
