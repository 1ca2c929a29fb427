/- What is proved here: what the model's l7Own, l7Sub, l7Child, l7Head, SubWeights, HeadFrom and IsHeaviest return. No conditions but lengths. -/
import Derived.Test.YthiegfbdmmpabaaGhostHead
import Derived.Test.YthiegfbdmmpabaaSpecOrder
namespace Go.Proofs.Ythiegfbdmmpabaa
open Go.RowKit

/-- The model's copy of a list, ahead of a loop that writes it. -/
theorem own_snoc0 {w1 : World} {B g n c' : Nat} {l : List Int} (hl : l.length = n) (h1 : w1.ownsRow B 3 1 (.slice (some ⟨g, 0, none⟩) n c') l.length (l.map (Value.int .i64))) : OwnAt w1 B (some ⟨g, 0, none⟩) n l := by
  subst hl
  obtain ⟨A1, c1, e1, o1⟩ := OwnAt.of_owns h1
  have hA1 : A1 = some ⟨g, 0, none⟩ := by injection e1 with e1 _ _; exact e1.symm
  rw [hA1] at o1
  exact o1
theorem bestL_in (S : Nat → Int) (n : Nat) : ∀ (l : List Nat) (m : Int), (m = -1 ∨ ∃ y : Nat, m = y ∧ y < n) → (∀ i, i ∈ l → i < n) →
    (l.foldl (fun m k => if m < 0 ∨ S m.toNat ≤ S k then (k : Int) else m) m = -1 ∨ ∃ y : Nat, l.foldl (fun m k => if m < 0 ∨ S m.toNat ≤ S k then (k : Int) else m) m = y ∧ y < n) := by
  intro l
  induction l with
  | nil => intro m hm _; exact hm
  | cons x l ih =>
    intro m hm hl
    simp only [List.foldl_cons]
    refine ih _ ?_ (fun i hi => hl i (List.mem_cons_of_mem _ hi))
    split
    · exact .inr ⟨x, rfl, hl x (List.mem_cons_self ..)⟩
    · exact hm

end Go.Proofs.Ythiegfbdmmpabaa

/- What is proved here: what the model's l7Head, HeadFrom and IsHeaviest return. No conditions but lengths. -/
namespace Go.Proofs.Ythiegfbdmmpabaa
open Go.RowKit

theorem child_no_low {ts : List Blk} {xs : List Int} {a : Int} (h : a < 1) : childOK ts xs a = false := by unfold childOK; rw [inB_low h]; simp
theorem child_no_high {ts : List Blk} {xs : List Int} {a : Int} (h : (ts.length : Int) ≤ a) : childOK ts xs a = false := by unfold childOK; rw [inB_high (by omega)]; simp
theorem beq_nat (x y : Nat) : ((x : Int) == (y : Int)) = decide ((x : Int) = (y : Int)) := by
  by_cases h : (x : Int) = y <;> simp [h]

end Go.Proofs.Ythiegfbdmmpabaa
