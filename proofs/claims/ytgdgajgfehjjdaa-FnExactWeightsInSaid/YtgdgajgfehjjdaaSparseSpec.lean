/- What is proved here: what the model's l4Sparse returns. No conditions. -/
import Derived.Test.YtgdgajgfehjjdaaSparse
import Derived.Deep.RegionLaw
namespace Go.Proofs.Ytgdgajgfehjjdaa
open Go.RowKit

/-- An append of a whole slice of integers in a plain walk, with where the result lies. -/
theorem appendAll {P : Program} (w : World) {ops : Array Oper} {rest : List Oper} {o : Oper} {a : Act} {Q : Exit → Act → World → Prop} (hg : o.guard = none) (s x : Operand) (t : TypeId)
    (hop : o.op = Op.call { callee := Callee.builtin Builtin.append, args := #[s, x], argTypes := #[t, t] }) (base : Nat) (i : TypeInfo)
    (h1 : P.underlying t = some (.slice 3)) (h2 : P.info? 3 = some i) (h3 : i.zero = some (.int .i64 0)) (h4 : i.size = 1) (h5 : i.bytes = 8)
    (v : Value) (ys : List Int) (hs : a.eval s = v) (hown : w.ownsRow base 3 1 v ys.length (ys.map (Value.int .i64))) (ab ao m : Nat) (c : Nat) (ls : List Int) (hl : ls.length = m) (hm : 0 < m) (hx : a.eval x = .slice (some ⟨ab, ao, none⟩) m c)
    (hc : ∀ j, j < m → w.cell? ⟨ab, ao + j, none⟩ = some (.int .i64 (ls[j]?.getD 0))) (b1 : ys.length + m ≤ 1048576) (b3 : base ≤ w.heap.size)
    (hK : ∀ g c' w', w'.ownsRow base 3 1 (.slice (some ⟨g, 0, none⟩) (ys.length + m) c') (ys ++ ls).length ((ys ++ ls).map (Value.int .i64)) → w.grownBy w' v.ownBlock → (v.ownBlock = some g ∨ g = w.heap.size) → wpList P ops Q rest (a.put o.dst (.slice (some ⟨g, 0, none⟩) (ys.length + m) c')) w') :
    wpList P ops Q (o :: rest) a w := by
  refine wpList_append_own_at w hg s x t hop base 3 i (.int .i64 0) 1 8 h1 h2 h3 h4 h5 rfl (by decide) v ys.length _ hs hown ⟨ab, ao, none⟩ m c (ls.map (Value.int .i64)) hx (by simp [hl])
    (fun j u hu => by
      rw [List.getElem?_map] at hu
      have hj : j < ls.length := by
        rcases Nat.lt_or_ge j ls.length with h | h
        · exact h
        · rw [List.getElem?_eq_none h] at hu; cases hu
      rw [Addr.add_lit, hc j (by omega)]
      rw [List.getElem?_eq_getElem hj] at hu ⊢
      exact hu)
    (by simp [Value.oneCell']) (by simp only [maxLen]; omega) (by omega) b3 ?_
  intro v' w' r1 r2 _ r4
  obtain ⟨m', rfl⟩ : ∃ m', m = m' + 1 := ⟨m - 1, by omega⟩
  obtain ⟨g, c', rfl⟩ := ownsRow_succ (k := ys.length + m') r1
  refine hK g c' w' (by simpa [hl, Nat.add_assoc] using r1) r2 ?_
  rcases r4 with e | e
  · exact .inl (by rw [← e]; rfl)
  · exact .inr (by simpa [Value.ownBlock] using e)

/-- A slice of one row. -/
theorem RowsSt.one {B n c : Nat} {w : World} {A : Option Addr} {l : List Int} {r : Nat → List Int} (h : OwnAt w B A n l) (hr : r 0 = l) (hB : B ≤ w.heap.size) :
    RowsSt B (w.alloc (.cells #[.slice A n c] 23)) (.slice (some ⟨w.heap.size, 0, none⟩) 1 1) 1 r := by
  have hb : Below w.heap.size w (w.alloc (.cells #[.slice A n c] 23)) := (Below.refl _ w).alloc (Nat.le_refl _) _
  refine ⟨[.slice A n c], fun _ => A, fun _ => c, ⟨rfl, .inr ⟨w.heap.size, 1, #[.slice A n c], rfl, hB, World.alloc_heap_new w _, Nat.le_refl _, by decide, rfl, rfl⟩⟩, fun i hi => ?_, fun i j hi hj hij => by omega⟩
  have : i = 0 := by omega
  subst this
  rw [hr, h.len]
  refine ⟨rfl, h.below hb, fun x hx e => ?_⟩
  have := (h.low x hx).2
  have e' : w.heap.size = x.block := by simpa [Value.ownBlock] using e
  omega

theorem infoInts' : (Try.prog.info? 23).map (fun i => (i.zero, i.size, i.bytes)) = some (some (.slice none 0 0), 1, 24) := by kernel_rfl
theorem wrap_nat {P : Nat} (h : P ≤ 1000) : IntKind.i64.wrap (P : Int) = (P : Int) := by rw [IntKind.wrap_i64]; omega
theorem wrap_nat2 {j P : Nat} (h : j + P ≤ 1000) : IntKind.i64.wrap ((j : Int) + (P : Int)) = ((j + P : Nat) : Int) := by rw [IntKind.wrap_i64]; omega
end Go.Proofs.Ytgdgajgfehjjdaa
