/- What is proved here: what the model's draws of stakes and groups make: new slices of few numbers, and nothing else changes but the cursor's own block. No conditions beside that the cursor is one. -/
import Derived.Test.YtbhogcecjmlomaaCursor
namespace Go.Proofs.Ytbhogcecjmlomaa
open Go.RowKit

def GroupPost (w : World) (g B lim : Nat) (many : Int) (e : Ending) (w' : World) : Prop :=
  ∃ A n c xs, e = .returned (.slice A n c) ∧ OwnAt w' w.heap.size A n xs ∧ (n : Int) ≤ many ∧ CurOk w' g B (lim + 2000) ∧ Grew g w.heap.size w w'

def StakesPost (w : World) (g B lim : Nat) (e : Ending) (w' : World) : Prop :=
  ∃ A n c xs, e = .returned (.slice A n c) ∧ OwnAt w' w.heap.size A n xs ∧ n ≤ 11 ∧ n ≤ c ∧ c ≤ maxLen ∧ CurOk w' g B (lim + 100) ∧ Grew g w.heap.size w w'
/-- Numbers of 0..1001. -/
def Small (xs : List Int) : Prop := ∀ k, k < xs.length → 0 ≤ xs[k]?.getD 0 ∧ xs[k]?.getD 0 ≤ 1001
theorem small_nil : Small [] := fun _ hk => absurd hk (Nat.not_lt_zero _)
theorem small_add {xs : List Int} {x : Int} (h : Small xs) (h0 : 0 ≤ x) (h1 : x ≤ 1001) : Small (xs ++ [x]) := fun k hk => by
  rw [List.length_append] at hk
  by_cases e : k < xs.length
  · rw [List.getElem?_append_left e]; exact h k e
  · have : k = xs.length := by simp at hk; omega
    subst this; simp [h0, h1]
theorem small_set {xs : List Int} {x : Int} (h : Small xs) (h0 : 0 ≤ x) (h1 : x ≤ 1001) : Small (xs.set 0 x) := fun k hk => by
  rw [List.length_set] at hk
  by_cases e : k = 0
  · subst e
    cases xs with
    | nil => simp at hk
    | cons y ys => simp [h0, h1]
  · rw [List.getElem?_set_ne (by omega)]; exact h k hk
theorem three_bd {j : Nat} (_h : j < 3) : 0 ≤ ([0, 1000, 1001] : List Int)[j]?.getD 0 ∧ ([0, 1000, 1001] : List Int)[j]?.getD 0 ≤ 1001 := by
  have : j = 0 ∨ j = 1 ∨ j = 2 := by omega
  rcases this with rfl | rfl | rfl <;> simp
def StakesPost2 (w : World) (g B lim : Nat) (e : Ending) (w' : World) : Prop :=
  ∃ A n c xs, e = .returned (.slice A n c) ∧ OwnAt w' w.heap.size A n xs ∧ n ≤ 11 ∧ n ≤ c ∧ c ≤ maxLen ∧ CurOk w' g B (lim + 100) ∧ Grew g w.heap.size w w' ∧ Hid (Small xs)
end Go.Proofs.Ytbhogcecjmlomaa
