/- What is proved here: plain facts on children and tours of a tree. No conditions. -/
import Derived.Test.YthiegfbdmmpababTreeSpec
namespace Go.Proofs.Ythiegfbdmmpabab
open Go.RowKit

/-- The children of b among the first k blocks. -/
def kidsL (ts : List Blk) (b k : Nat) : List Nat := (List.range k).filter fun i => parZ ts i == (b : Int)
theorem kids_zero (ts : List Blk) (b : Nat) : kidsL ts b 0 = [] := rfl
theorem kids_yes {ts : List Blk} {b k : Nat} (h : parZ ts k = b) : kidsL ts b (k + 1) = kidsL ts b k ++ [k] := by
  unfold kidsL; rw [List.range_succ, List.filter_append]; simp [h]
theorem kids_no {ts : List Blk} {b k : Nat} (h : parZ ts k ≠ b) : kidsL ts b (k + 1) = kidsL ts b k := by
  unfold kidsL; rw [List.range_succ, List.filter_append]; simp [h]
theorem kids_prefix (ts : List Blk) (b : Nat) {k m : Nat} (h : k ≤ m) : kidsL ts b k <+: kidsL ts b m := by
  induction m with
  | zero => rw [Nat.le_zero.1 h]; exact List.prefix_refl _
  | succ m ih =>
    by_cases e : k = m + 1
    · rw [e]; exact List.prefix_refl _
    · refine (ih (by omega)).trans ?_
      by_cases hp : parZ ts m = b
      · rw [kids_yes hp]; exact List.prefix_append _ _
      · rw [kids_no hp]; exact List.prefix_refl _
theorem kids_mem {ts : List Blk} {b k i : Nat} : i ∈ kidsL ts b k ↔ i < k ∧ parZ ts i = b := by
  unfold kidsL; rw [List.mem_filter, List.mem_range]; simp
theorem kids_above {ts : List Blk} (h : Tree ts) {b i : Nat} (hi : i ∈ kidsL ts b ts.length) : b < i ∧ i < ts.length ∧ parN ts i = b := by
  obtain ⟨h1, h2⟩ := kids_mem.1 hi
  have h0 : i ≠ 0 := fun e => by subst e; rw [h.root] at h2; omega
  have := h.up h1 h0
  refine ⟨?_, h1, by unfold parN; rw [h2]; simp⟩
  have e : parN ts i = b := by unfold parN; rw [h2]; simp
  omega
/-- The children of b, all of them. -/
def kids (ts : List Blk) (b : Nat) : List Nat := kidsL ts b ts.length

/-- The tour of b, each block with whether it is reached for the first time. -/
def tourF (ts : List Blk) : Nat → Nat → List (Nat × Bool)
  | 0, b => [(b, true)]
  | f + 1, b => (b, true) :: (kids ts b).flatMap fun c => tourF ts f c ++ [(b, false)]
def tour (ts : List Blk) (b : Nat) : List (Nat × Bool) := tourF ts (ts.length - b) b
theorem flatMap_congr' {α β : Type} {l : List α} {f g : α → List β} (h : ∀ x, x ∈ l → f x = g x) : l.flatMap f = l.flatMap g := by
  induction l with
  | nil => rfl
  | cons x l ih => rw [List.flatMap_cons, List.flatMap_cons, h x (by simp), ih (fun y hy => h y (by simp [hy]))]
theorem tourF_enough {ts : List Blk} (h : Tree ts) : ∀ f g b, b < ts.length → ts.length - b ≤ f → ts.length - b ≤ g → tourF ts f b = tourF ts g b := by
  intro f
  induction f with
  | zero => intro g b hb hf; omega
  | succ f ih =>
    intro g b hb hf hg
    obtain ⟨g, rfl⟩ : ∃ g', g = g' + 1 := ⟨g - 1, by omega⟩
    simp only [tourF]
    rw [flatMap_congr' (fun c hc => ?_)]
    obtain ⟨h1, h2, _⟩ := kids_above h hc
    rw [ih g c h2 (by omega) (by omega)]
theorem tour_step {ts : List Blk} (h : Tree ts) {b : Nat} (hb : b < ts.length) : tour ts b = (b, true) :: (kids ts b).flatMap fun c => tour ts c ++ [(b, false)] := by
  unfold tour
  obtain ⟨m, e⟩ : ∃ m, ts.length - b = m + 1 := ⟨ts.length - b - 1, by omega⟩
  rw [e]
  simp only [tourF]
  rw [flatMap_congr' (fun c hc => ?_)]
  obtain ⟨h1, h2, _⟩ := kids_above h hc
  rw [tourF_enough h m (ts.length - c) c h2 (by omega) (by omega)]
end Go.Proofs.Ythiegfbdmmpabab
