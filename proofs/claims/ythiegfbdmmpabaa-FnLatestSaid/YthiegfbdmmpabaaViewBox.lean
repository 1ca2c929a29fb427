/- What is proved here: boxes of two and three cells; what a call that returns a view leaves; what the law's helpers on views return. No conditions but lengths. -/
import Derived.Test.YthiegfbdmmpabaaPoolBox
import Derived.Test.YthiegfbdmmpabaaOpenVotes
namespace Go.Proofs.Ythiegfbdmmpabaa
open Go.RowKit

def fn2 (a b : Value) (i : Nat) : Value := if i = 0 then a else b
def fn3 (a b c : Value) (i : Nat) : Value := if i = 0 then a else if i = 1 then b else c
theorem bx_row2 (w : World) (a b : Value) (t : TypeId) : (w.alloc (.cells #[a, b] t)).rowIs w.heap.size t 2 (fn2 a b) :=
  ⟨_, heap_alloc_new _ _, rfl, fun i hi => by
    have : i = 0 ∨ i = 1 := by omega
    rcases this with rfl | rfl <;> rfl⟩
theorem bx_row3 (w : World) (a b c : Value) (t : TypeId) : (w.alloc (.cells #[a, b, c] t)).rowIs w.heap.size t 3 (fn3 a b c) :=
  ⟨_, heap_alloc_new _ _, rfl, fun i hi => by
    have : i = 0 ∨ i = 1 ∨ i = 2 := by omega
    rcases this with rfl | rfl | rfl <;> rfl⟩
section
variable {w : World} {g : Nat} {t : TypeId} {a b c : Value}
theorem row2_0 (h : w.rowIs g t 2 (fn2 a b)) : w.cell? ⟨g, 0, none⟩ = some a := h.cell (i := 0) (by omega)
theorem row2_1 (h : w.rowIs g t 2 (fn2 a b)) : w.cell? ⟨g, 1, none⟩ = some b := h.cell (i := 1) (by omega)
theorem row3_0 (h : w.rowIs g t 3 (fn3 a b c)) : w.cell? ⟨g, 0, none⟩ = some a := h.cell (i := 0) (by omega)
theorem row3_1 (h : w.rowIs g t 3 (fn3 a b c)) : w.cell? ⟨g, 1, none⟩ = some b := h.cell (i := 1) (by omega)
theorem row3_2 (h : w.rowIs g t 3 (fn3 a b c)) : w.cell? ⟨g, 2, none⟩ = some c := h.cell (i := 2) (by omega)
theorem row2_set (h : w.rowIs g t 2 (fn2 a b)) (x y : Value) : ((w.setCell ⟨g, 0, none⟩ x).setCell ⟨g, 1, none⟩ y).rowIs g t 2 (fn2 x y) :=
  ((h.set 0 x).set 1 y).congr (fun i hi => by
    have : i = 0 ∨ i = 1 := by omega
    rcases this with rfl | rfl <;> rfl)
theorem pl_two (h : w.rowIs g t 2 (fn2 a b)) : w.heap[g]? = some (.cells #[a, b] t (0, 0)) := by
  obtain ⟨cs, h1, h2, h3⟩ := h
  have e : cs = #[a, b] := by
    apply Array.ext (by simp [h2])
    intro i hi _
    have : i = 0 ∨ i = 1 := by rw [h2] at hi; omega
    rcases this with rfl | rfl
    · have := h3 0 (by omega)
      rw [Array.getElem?_eq_getElem hi] at this
      simpa [fn2] using this
    · have := h3 1 (by omega)
      rw [Array.getElem?_eq_getElem hi] at this
      simpa [fn2] using this
  rw [← e]; exact h1
end
theorem keep_set2 {w : World} {g b : Nat} {t t' : TypeId} {n : Nat} {f f' : Nat → Value} (_hz : w.rowIs g t 2 f) (hx : w.rowIs b t' n f') (hb : b < g) (u v : Value) : ((w.setCell ⟨g, 0, none⟩ u).setCell ⟨g, 1, none⟩ v).rowIs b t' n f' :=
  (hx.setOther (a := ⟨g, 0, none⟩) (by show b ≠ g; omega) u).setOther (a := ⟨g, 1, none⟩) (by show b ≠ g; omega) v

/-- What a call that returns a view leaves: two slices of its own, apart from each other. -/
def Apart (A A' : Option Addr) : Prop := ∀ ad ad', A = some ad → A' = some ad' → ad.block ≠ ad'.block
def RetView (w : World) (b : Bool) (s f : List Vt) (e : Ending) (w' : World) : Prop :=
  ∃ A n c A' n' c', e = .returned (.tuple #[.agg #[.slice A n c, .slice A' n' c'], .bool b]) ∧ OwnV w' w.heap.size A n s ∧ OwnV w' w.heap.size A' n' f ∧ Apart A A' ∧ Below w.heap.size w w'

theorem bx3v_rows (w : World) (a b : Value) (t t' : TypeId) :
    (((w.alloc (.cells #[a, b] t)).alloc (.cells #[.slice none 0 0, .slice none 0 0] t')).alloc (.cells #[.slice none 0 0, .slice none 0 0] t')).rowIs w.heap.size t 2 (fn2 a b) ∧
    (((w.alloc (.cells #[a, b] t)).alloc (.cells #[.slice none 0 0, .slice none 0 0] t')).alloc (.cells #[.slice none 0 0, .slice none 0 0] t')).rowIs (w.heap.size + 1) t' 2 (fn2 (.slice none 0 0) (.slice none 0 0)) ∧
    (((w.alloc (.cells #[a, b] t)).alloc (.cells #[.slice none 0 0, .slice none 0 0] t')).alloc (.cells #[.slice none 0 0, .slice none 0 0] t')).rowIs (w.heap.size + 2) t' 2 (fn2 (.slice none 0 0) (.slice none 0 0)) ∧
    Below w.heap.size w (((w.alloc (.cells #[a, b] t)).alloc (.cells #[.slice none 0 0, .slice none 0 0] t')).alloc (.cells #[.slice none 0 0, .slice none 0 0] t')) ∧
    (((w.alloc (.cells #[a, b] t)).alloc (.cells #[.slice none 0 0, .slice none 0 0] t')).alloc (.cells #[.slice none 0 0, .slice none 0 0] t')).heap.size = w.heap.size + 3 := by
  have r1 := bx_row2 w a b t
  have b1 := bx_below w (.cells #[a, b] t)
  have s1 : (w.alloc (.cells #[a, b] t)).heap.size = w.heap.size + 1 := by simp
  have r2 := bx_row2 (w.alloc (.cells #[a, b] t)) (.slice none 0 0) (.slice none 0 0) t'
  have b2 := bx_below (w.alloc (.cells #[a, b] t)) (.cells #[.slice none 0 0, .slice none 0 0] t')
  have s2 : ((w.alloc (.cells #[a, b] t)).alloc (.cells #[.slice none 0 0, .slice none 0 0] t')).heap.size = w.heap.size + 2 := by simp
  have r3 := bx_row2 ((w.alloc (.cells #[a, b] t)).alloc (.cells #[.slice none 0 0, .slice none 0 0] t')) (.slice none 0 0) (.slice none 0 0) t'
  have b3 := bx_below ((w.alloc (.cells #[a, b] t)).alloc (.cells #[.slice none 0 0, .slice none 0 0] t')) (.cells #[.slice none 0 0, .slice none 0 0] t')
  have q1 := rowIs_below (rowIs_below r1 b2 r1.lt) b3 (by rw [s2]; omega)
  have q2 := rowIs_below r2 b3 r2.lt
  rw [s1] at q2
  rw [s2] at r3
  exact ⟨q1, q2, r3, b1.trans ((b2.mono b1.size).trans (b3.mono (by rw [s2]; omega))), by simp⟩

end Go.Proofs.Ythiegfbdmmpabaa
