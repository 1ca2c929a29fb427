/- What is proved here: the contract of the iterator over the tour of a block. No conditions. -/
import Derived.Test.YtgdgajgfehjjdaaKidsIter
namespace Go.Proofs.Ytgdgajgfehjjdaa
open Go.RowKit Go.Shelf

attribute [local go_sem] Oper.semAt_some

theorem prefix_flatMap {α β : Type} {l m : List α} (f : α → List β) (h : l <+: m) : l.flatMap f <+: m.flatMap f := by
  obtain ⟨r, rfl⟩ := h
  rw [List.flatMap_append]; exact List.prefix_append _ _
theorem prefix_add {α : Type} {p l m : List α} (h : l <+: m) : p ++ l <+: p ++ m := by
  obtain ⟨r, rfl⟩ := h
  rw [← List.append_assoc]; exact List.prefix_append _ _
/-- What a tour has handed out when the children cs are done. -/
def tourPart (ts : List Blk) (b : Nat) (cs : List Nat) : List (Nat × Bool) := (b, true) :: cs.flatMap fun c => tour ts c ++ [(b, false)]
theorem tourPart_nil (ts : List Blk) (b : Nat) : tourPart ts b [] = [(b, true)] := rfl
theorem tourPart_snoc (ts : List Blk) (b : Nat) (cs : List Nat) (x : Nat) : tourPart ts b (cs ++ [x]) = tourPart ts b cs ++ tour ts x ++ [(b, false)] := by
  unfold tourPart; rw [List.flatMap_append]; simp [List.append_assoc]
theorem tourPart_all {ts : List Blk} (h : Tree ts) {b : Nat} (hb : b < ts.length) : tourPart ts b (kids ts b) = tour ts b := (tour_step h hb).symm
theorem tourPart_prefix {ts : List Blk} (h : Tree ts) {b : Nat} (hb : b < ts.length) {cs : List Nat} (hc : cs <+: kids ts b) : tourPart ts b cs <+: tour ts b := by
  rw [← tourPart_all h hb]
  unfold tourPart
  obtain ⟨r, hr⟩ := prefix_flatMap (fun c => tour ts c ++ [(b, false)]) hc
  exact ⟨r, by rw [List.cons_append, hr]⟩

section
variable {A : Option Addr} {n c : Nat} {ts : List Blk} {b l n₀ : Nat} {Pr : Nat → Prop} {W : World} {v : Value} {Pri PrO : Nat → Prop} {X Y : World}
end
def TourPost (ts : List Blk) (b n₀ : Nat) (J Jx : List (Nat × Bool) → (Nat → Prop) → World → Prop) (pre : List (Nat × Bool)) (Pr : Nat → Prop) (W : World) (e : Ending) (W' : World) : Prop :=
  (e = .returned (.bool true) ∧ J (pre ++ tour ts b) Pr W' ∧ Below n₀ W W' ∧ Kept Pr W W') ∨ (e = .returned (.bool false) ∧ ∃ q, q <+: tour ts b ∧ Jx (pre ++ q) Pr W' ∧ Below n₀ W W' ∧ Kept Pr W W')

end Go.Proofs.Ytgdgajgfehjjdaa
