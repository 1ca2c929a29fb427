/- What is proved here: what the model's draw of stakes makes: a new slice of at most eleven numbers, and nothing else changes but the cursor's own block. No conditions beside that the cursor is one. -/
import Derived.Test.YtbhogcecjmlomaaDraws
namespace Go.Proofs.Ytbhogcecjmlomaa
open Go.RowKit

theorem own_only {w1 w2 : World} {g B n : Nat} {v : Value} {ys : List Value} (h : w1.ownsRow B 3 1 v n ys) (o : Only (some ⟨g, 0, none⟩) w1 w2) (hg : g < B) : w2.ownsRow B 3 1 v n ys :=
  h.kept (row := some g) ⟨o.os, o.tape, o.output, by rw [o.size]; exact Nat.le_refl _, fun i _ hi => o.block i (fun ad e => by cases e; exact fun he => hi (by rw [he]))⟩ (by
    rcases hq : v.ownBlock with _ | q
    · exact .inl rfl
    · right; have := (h.lt q hq).1; intro e; cases e; omega)
theorem owns_cap' {w : World} {B : Nat} {v : Value} {n : Nat} {xs : List Value} (h : w.ownsRow B 3 1 v n xs) : ∀ A m c, v = .slice A m c → m ≤ c ∧ c ≤ maxLen := by
  intro A m c e
  rcases h.2 with ⟨rfl, _⟩ | ⟨g, cap, cur, rfl, _, _, h1, h2, _⟩
  · cases e; exact ⟨Nat.le_refl _, Nat.zero_le _⟩
  · cases e; exact ⟨h1, h2⟩
theorem three_ints (w : World) (x y z : Int) (t : TypeId) : IntsAt (w.alloc (.cells #[.int .i64 x, .int .i64 y, .int .i64 z] t)) (w.heap.size + 1) (some ⟨w.heap.size, 0, none⟩) 3 [x, y, z] :=
  ⟨rfl, fun k hk => ⟨w.heap.size, 0, rfl, Nat.lt_succ_self _, by
    have : k = 0 ∨ k = 1 ∨ k = 2 := by omega
    rcases this with rfl | rfl | rfl <;> simp⟩⟩
theorem own_set0 {w : World} {B n q : Nat} {xs : List Int} {v : Int} (h : OwnAt w B (some ⟨q, 0, none⟩) n xs) (hn : 0 < n) : OwnAt (w.setCell ⟨q, 0, none⟩ (.int .i64 v)) B (some ⟨q, 0, none⟩) n (xs.set 0 v) := by
  obtain ⟨q', m, f, e, hm, hr, hf⟩ := h.own hn
  cases e
  refine ⟨by rw [List.length_set]; exact h.len, fun _ => ⟨q, m, _, rfl, hm, hr.set 0 (.int .i64 v), fun i hi => ?_⟩, fun ad e => ⟨(h.low ad e).1, by simpa [World.setCell] using (h.low ad e).2⟩⟩
  by_cases e : i = 0
  · subst e
    have hl := h.len
    cases xs with
    | nil => simp at hl; omega
    | cons x xs => simp
  · simp only [e, if_false]
    rw [hf i hi, List.getElem?_set_ne (by omega)]

end Go.Proofs.Ytbhogcecjmlomaa
