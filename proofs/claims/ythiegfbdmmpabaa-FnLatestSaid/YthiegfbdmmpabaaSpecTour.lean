/- What is proved here: what the model's l4Children, l4Order, l4Tour, ChildrenOf, OrderOf and TourOf return. No conditions. -/
import Derived.Test.YthiegfbdmmpabaaTourFns
namespace Go.Proofs.Ythiegfbdmmpabaa
open Go.RowKit

/-- An append in a plain walk, with where the result lies. -/
theorem appendPl {P : Program} (w : World) {ops : Array Oper} {rest : List Oper} {o : Oper} {a : Act} {Q : Exit → Act → World → Prop} (hg : o.guard = none) (s x : Operand) (t : TypeId)
    (hop : o.op = Op.call { callee := Callee.builtin Builtin.append, args := #[s, x], argTypes := #[t, t] }) (base : Nat) (i : TypeInfo)
    (h1 : P.underlying t = some (.slice 3)) (h2 : P.info? 3 = some i) (h3 : i.zero = some (.int .i64 0)) (h4 : i.size = 1) (h5 : i.bytes = 8)
    (v : Value) (ys : List Int) (hs : a.eval s = v) (hown : w.ownsRow base 3 1 v ys.length (ys.map (Value.int .i64))) (ab ao : Nat) (c : Nat) (y : Int) (hx : a.eval x = .slice (some ⟨ab, ao, none⟩) 1 c) (hc : w.cell? ⟨ab, ao, none⟩ = some (.int .i64 y))
    (b1 : ys.length ≤ 1048576) (b3 : base ≤ w.heap.size)
    (hK : ∀ g c' w', w'.ownsRow base 3 1 (.slice (some ⟨g, 0, none⟩) (ys.length + 1) c') (ys ++ [y]).length ((ys ++ [y]).map (Value.int .i64)) → w.grownBy w' v.ownBlock → (v.ownBlock = some g ∨ g = w.heap.size) → wpList P ops Q rest (a.put o.dst (.slice (some ⟨g, 0, none⟩) (ys.length + 1) c')) w') :
    wpList P ops Q (o :: rest) a w := by
  refine wpList_append_own_at w hg s x t hop base 3 i (.int .i64 0) 1 8 h1 h2 h3 h4 h5 rfl (by decide) v ys.length _ hs hown ⟨ab, ao, none⟩ 1 c [.int .i64 y] hx rfl
    (fun j u hu => by
      cases j with
      | zero => simp at hu; subst hu; rw [Addr.add_lit]; exact hc
      | succ j => simp at hu)
    (by simp [Value.oneCell']) (by simp only [maxLen]; omega) (by omega) b3 ?_
  intro v' w' r1 r2 _ r4
  obtain ⟨g, c', rfl⟩ := ownsRow_succ r1
  refine hK g c' w' (by simpa using r1) r2 ?_
  rcases r4 with e | e
  · exact .inl (by rw [← e]; rfl)
  · exact .inr (by simpa [Value.ownBlock] using e)

theorem kid_pos {ts : List Blk} (h : Tree ts) {b k : Nat} (hp : parZ ts k = b) : 0 < k := by
  cases k with
  | zero => rw [h.root] at hp; omega
  | succ k => omega

end Go.Proofs.Ythiegfbdmmpabaa
