/- What is proved here: an append of a vote, and what a slice of votes that a call has made itself holds. No conditions. -/
import Derived.Test.YthiegfbdmmpabaaVotes
import Derived.Maps.AppendAt
import Derived.RangeFuncBox
namespace Go.Proofs.Ythiegfbdmmpabaa
open Go.RowKit

/-- The cells of a list of votes. -/
def flatV : List Vt → List Value
  | [] => []
  | v :: vs => .int .i64 v.1 :: .int .i64 v.2.1 :: .int .i64 v.2.2 :: flatV vs
theorem flatV_len (vs : List Vt) : (flatV vs).length = vs.length * 3 := by
  induction vs with
  | nil => rfl
  | cons v vs ih => simp only [flatV, List.length_cons, ih]; omega
theorem flatV_app (vs us : List Vt) : flatV (vs ++ us) = flatV vs ++ flatV us := by
  induction vs with
  | nil => rfl
  | cons v vs ih => simp only [List.cons_append, flatV, ih]
theorem cellsV_cons (v : Vt) (vs : List Vt) (i : Nat) : cellsV (v :: vs) (i + 3) = cellsV vs i := by
  unfold cellsV getV
  rw [show (i + 3) % 3 = i % 3 by omega, show (i + 3) / 3 = i / 3 + 1 by omega]
  simp only [List.getElem?_cons_succ]
theorem flatV_get (vs : List Vt) : ∀ i, i < vs.length * 3 → (flatV vs)[i]? = some (cellsV vs i) := by
  induction vs with
  | nil => intro i h; simp at h
  | cons v vs ih =>
    intro i h
    rw [List.length_cons] at h
    match i, h with
    | 0, _ => rfl
    | 1, _ => rfl
    | 2, _ => rfl
    | i + 3, h =>
      rw [cellsV_cons]
      show (flatV vs)[i]? = _
      exact ih i (by omega)
theorem OwnV.of_owns {w : World} {B n : Nat} {v : Value} {vs : List Vt} (h : w.ownsRow B 63 3 v n (flatV vs)) : ∃ A c, v = .slice A n c ∧ OwnV w B A n vs := by
  obtain ⟨hl, hh⟩ := h
  have hl' : vs.length = n := by rw [flatV_len] at hl; omega
  rcases hh with ⟨rfl, rfl⟩ | ⟨g, cap, cur, rfl, hB, hb, hn, hm, hc, ht⟩
  · exact ⟨none, 0, rfl, hl', fun h => absurd h (Nat.lt_irrefl _), fun ad e => by cases e⟩
  · refine ⟨some ⟨g, 0, none⟩, cap, rfl, hl', fun _ => ⟨g, cap, fun i => cur[i]?.getD undef, rfl, hn, ⟨cur, hb, hc, fun i hi => ?_⟩, fun i hi => ?_⟩, fun ad e => ?_⟩
    · show cur[i]? = some (cur[i]?.getD undef)
      rw [Array.getElem?_eq_getElem (show i < cur.size by omega), Option.getD_some]
    · have e1 : (cur.toList.take (n * 3))[i]? = (flatV vs)[i]? := by rw [ht]
      rw [List.getElem?_take_of_lt (by omega), flatV_get vs i (by omega), Array.getElem?_toList] at e1
      show cur[i]?.getD undef = _
      rw [e1]; rfl
    · cases e
      exact ⟨hB, (Array.getElem?_eq_some_iff.1 hb).1⟩
theorem ownsV_belowW {w w' : World} {base : Nat} {v : Value} {n : Nat} {xs : List Value} (h : w.ownsRow base 63 3 v n xs) (hb : Below w.heap.size w w') : w'.ownsRow base 63 3 v n xs :=
  h.kept (row := none) ⟨hb.os, hb.tape, hb.output, hb.size, fun k hk _ => hb.block k hk⟩ (by cases hv : v.ownBlock <;> simp)

theorem ownsV_votes {w : World} {B n : Nat} {v : Value} {vs : List Vt} (h : w.ownsRow B 63 3 v n (flatV vs)) : ∃ A c, v = .slice A n c ∧ VotesAt w w.heap.size A n vs := by
  obtain ⟨A, c, e, h'⟩ := OwnV.of_owns h
  exact ⟨A, c, e, h'.votes⟩

/-- An append of one vote that lies in a box, in a plain walk, with where the result lies. -/
theorem appendVt (w : World) {ops : Array Oper} {rest : List Oper} {o : Oper} {a : Act} {Q : Exit → Act → World → Prop} (hg : o.guard = none) (s x : Operand) (t : TypeId)
    (hop : o.op = Op.call { callee := Callee.builtin Builtin.append, args := #[s, x], argTypes := #[t, t] }) (base : Nat)
    (h1 : Try.prog.underlying t = some (.slice 63))
    (v : Value) (ys : List Vt) (hs : a.eval s = v) (hown : w.ownsRow base 63 3 v ys.length (flatV ys)) (ab : Nat) (c : Nat) (y1 y2 y3 : Int) (hx : a.eval x = .slice (some ⟨ab, 0, none⟩) 1 c)
    (c0 : w.cell? ⟨ab, 0, none⟩ = some (.int .i64 y1)) (c1 : w.cell? ⟨ab, 1, none⟩ = some (.int .i64 y2)) (c2 : w.cell? ⟨ab, 2, none⟩ = some (.int .i64 y3))
    (b1 : ys.length ≤ 1048576) (b3 : base ≤ w.heap.size)
    (hK : ∀ g c' w', w'.ownsRow base 63 3 (.slice (some ⟨g, 0, none⟩) (ys.length + 1) c') (ys ++ [(y1, y2, y3)]).length (flatV (ys ++ [(y1, y2, y3)])) → w.grownBy w' v.ownBlock → (v.ownBlock = some g ∨ g = w.heap.size) → wpList Try.prog ops Q rest (a.put o.dst (.slice (some ⟨g, 0, none⟩) (ys.length + 1) c')) w') :
    wpList Try.prog ops Q (o :: rest) a w := by
  obtain ⟨i0, hi, hzz⟩ := Option.map_eq_some_iff.1 infoVote
  simp only [Prod.mk.injEq] at hzz
  obtain ⟨hz, hsz, hb⟩ := hzz
  refine wpList_append_own_at w hg s x t hop base 63 i0 (.agg #[.int .i64 0, .int .i64 0, .int .i64 0]) 3 24 h1 hi hz hsz hb rfl (by decide) v ys.length _ hs hown ⟨ab, 0, none⟩ 1 c (flatV [(y1, y2, y3)]) hx rfl
    (fun j u hu => by
      match j, hu with
      | 0, hu => simp only [flatV, List.getElem?_cons_zero, Option.some.injEq] at hu; subst hu; rw [Addr.add_lit]; exact c0
      | 1, hu => simp only [flatV, List.getElem?_cons_succ, List.getElem?_cons_zero, Option.some.injEq] at hu; subst hu; rw [Addr.add_lit]; exact c1
      | 2, hu => simp only [flatV, List.getElem?_cons_succ, List.getElem?_cons_zero, Option.some.injEq] at hu; subst hu; rw [Addr.add_lit]; exact c2
      | j + 3, hu => simp [flatV] at hu)
    (by simp [flatV, Value.oneCell']) (by simp only [maxLen]; omega) (by omega) b3 ?_
  intro v' w' r1 r2 _ r4
  obtain ⟨g, c', rfl⟩ := ownsRow_succ r1
  refine hK g c' w' (by rw [flatV_app]; simpa using r1) r2 ?_
  rcases r4 with e | e
  · exact .inl (by rw [← e]; rfl)
  · exact .inr (by simpa [Value.ownBlock] using e)
end Go.Proofs.Ythiegfbdmmpabaa
