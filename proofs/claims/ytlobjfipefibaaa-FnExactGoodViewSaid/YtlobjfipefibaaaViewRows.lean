/- What is proved here: plain facts on what MergeView and HeadByView return, and boxes in a row. No conditions but lengths, and a slice's room. -/
import Derived.Test.YtlobjfipefibaaaViewBox
import Derived.Test.YtlobjfipefibaaaViewFacts
import Derived.Test.YtlobjfipefibaaaHeadSpec
namespace Go.Proofs.Ytlobjfipefibaaa
open Go.RowKit Go.Maps Go.Sort Go.Shelf Go.Lib
def hbR (ts : List Blk) (ss : List Int) (s f : List Vt) : Int := if viewOk ts ss s f = true then headPR ts ss f else 0
def mdOK (ts : List Blk) (ss : List Int) (s f p : List Vt) : Bool := mrgOK ts ss s p && mrgOK ts ss f p
def mdS (ts : List Blk) (ss : List Int) (s f p : List Vt) : List Vt := if mdOK ts ss s f p = true then setV (s ++ p) else []
def mdF (ts : List Blk) (ss : List Int) (s f p : List Vt) : List Vt := if mdOK ts ss s f p = true then setV (f ++ p) else []
theorem mv_md {ts : List Blk} {ss : List Int} {s f : List Vt} (h : viewOk ts ss s f = true) (p : List Vt) : mdOK ts ss s f p = mvOK ts ss s f p ∧ mdS ts ss s f p = mvS ts ss s f p ∧ mdF ts ss s f p = mvF ts ss s f p := by
  have e : mdOK ts ss s f p = mvOK ts ss s f p := by unfold mdOK mvOK; rw [h]; rfl
  refine ⟨e, ?_, ?_⟩
  · unfold mdS mvS; rw [e]
  · unfold mdF mvF; rw [e]
theorem apart_nil : Apart none none := fun _ _ e _ => by cases e
theorem OwnV.setBox2 {w : World} {B n g : Nat} {A : Option Addr} {vs : List Vt} (h : OwnV w B A n vs) (hg : g < B) (x y : Value) : OwnV ((w.setCell ⟨g, 0, none⟩ x).setCell ⟨g, 1, none⟩ y) B A n vs :=
  (h.setBox hg x).keep (by simp) (fun ad e => Below.heap_setCell _ _ _ ad.block (by have := (h.low ad e).1; show ad.block ≠ g; omega))
theorem bxPR_rows (w : World) (a : Value) (t t' : TypeId) : ((w.alloc (.cells #[a] t)).alloc (.cells #[.slice none 0 0, .slice none 0 0] t')).rowIs w.heap.size t 1 (fun _ => a) ∧ ((w.alloc (.cells #[a] t)).alloc (.cells #[.slice none 0 0, .slice none 0 0] t')).rowIs (w.heap.size + 1) t' 2 (fn2 (.slice none 0 0) (.slice none 0 0)) ∧
    Below w.heap.size w ((w.alloc (.cells #[a] t)).alloc (.cells #[.slice none 0 0, .slice none 0 0] t')) ∧ ((w.alloc (.cells #[a] t)).alloc (.cells #[.slice none 0 0, .slice none 0 0] t')).heap.size = w.heap.size + 2 := by
  have r1 := bx_row w a t
  have b1 := bx_below w (.cells #[a] t)
  have r2 := bx_row2 (w.alloc (.cells #[a] t)) (.slice none 0 0) (.slice none 0 0) t'
  have b2 := bx_below (w.alloc (.cells #[a] t)) (.cells #[.slice none 0 0, .slice none 0 0] t')
  rw [show (w.alloc (.cells #[a] t)).heap.size = w.heap.size + 1 by simp] at r2
  exact ⟨rowIs_below r1 b2 r1.lt, r2, b1.trans (b2.mono b1.size), by simp⟩
theorem bxVR_rows (w : World) (a b : Value) (t t' : TypeId) : ((w.alloc (.cells #[a, b] t)).alloc (.cells #[.slice none 0 0, .slice none 0 0] t')).rowIs w.heap.size t 2 (fn2 a b) ∧ ((w.alloc (.cells #[a, b] t)).alloc (.cells #[.slice none 0 0, .slice none 0 0] t')).rowIs (w.heap.size + 1) t' 2 (fn2 (.slice none 0 0) (.slice none 0 0)) ∧
    Below w.heap.size w ((w.alloc (.cells #[a, b] t)).alloc (.cells #[.slice none 0 0, .slice none 0 0] t')) ∧ ((w.alloc (.cells #[a, b] t)).alloc (.cells #[.slice none 0 0, .slice none 0 0] t')).heap.size = w.heap.size + 2 := by
  have r1 := bx_row2 w a b t
  have b1 := bx_below w (.cells #[a, b] t)
  have r2 := bx_row2 (w.alloc (.cells #[a, b] t)) (.slice none 0 0) (.slice none 0 0) t'
  have b2 := bx_below (w.alloc (.cells #[a, b] t)) (.cells #[.slice none 0 0, .slice none 0 0] t')
  rw [show (w.alloc (.cells #[a, b] t)).heap.size = w.heap.size + 1 by simp] at r2
  exact ⟨rowIs_below r1 b2 r1.lt, r2, b1.trans (b2.mono b1.size), by simp⟩
theorem bxVPR_rows (w : World) (a b p : Value) (t t1 t2 : TypeId) : (((w.alloc (.cells #[a, b] t)).alloc (.cells #[p] t1)).alloc (.cells #[.slice none 0 0, .slice none 0 0] t2)).rowIs w.heap.size t 2 (fn2 a b) ∧ (((w.alloc (.cells #[a, b] t)).alloc (.cells #[p] t1)).alloc (.cells #[.slice none 0 0, .slice none 0 0] t2)).rowIs (w.heap.size + 1) t1 1 (fun _ => p) ∧
    (((w.alloc (.cells #[a, b] t)).alloc (.cells #[p] t1)).alloc (.cells #[.slice none 0 0, .slice none 0 0] t2)).rowIs (w.heap.size + 2) t2 2 (fn2 (.slice none 0 0) (.slice none 0 0)) ∧
    Below w.heap.size w (((w.alloc (.cells #[a, b] t)).alloc (.cells #[p] t1)).alloc (.cells #[.slice none 0 0, .slice none 0 0] t2)) ∧ (((w.alloc (.cells #[a, b] t)).alloc (.cells #[p] t1)).alloc (.cells #[.slice none 0 0, .slice none 0 0] t2)).heap.size = w.heap.size + 3 := by
  have r1 := bx_row2 w a b t
  have b1 := bx_below w (.cells #[a, b] t)
  have r2 := bx_row (w.alloc (.cells #[a, b] t)) p t1
  have b2 := bx_below (w.alloc (.cells #[a, b] t)) (.cells #[p] t1)
  have s1 : (w.alloc (.cells #[a, b] t)).heap.size = w.heap.size + 1 := by simp
  have s2 : ((w.alloc (.cells #[a, b] t)).alloc (.cells #[p] t1)).heap.size = w.heap.size + 2 := by simp
  have r3 := bx_row2 ((w.alloc (.cells #[a, b] t)).alloc (.cells #[p] t1)) (.slice none 0 0) (.slice none 0 0) t2
  have b3 := bx_below ((w.alloc (.cells #[a, b] t)).alloc (.cells #[p] t1)) (.cells #[.slice none 0 0, .slice none 0 0] t2)
  have q1 := rowIs_below (rowIs_below r1 b2 r1.lt) b3 (by rw [s2]; omega)
  have q2 := rowIs_below r2 b3 r2.lt
  rw [s1] at q2
  rw [s2] at r3
  exact ⟨q1, q2, r3, b1.trans ((b2.mono b1.size).trans (b3.mono (by rw [s2]; omega))), by simp⟩
end Go.Proofs.Ytlobjfipefibaaa
