/- What is proved here: plain facts on an argument of one field that a law keeps in a box. No conditions. -/
import Derived.Test.YtbhogcecjmlomaaFenHelp2
import Derived.Test.YtbhogcecjmlomaaFenModel2
import Derived.Deep.RegionWith
namespace Go.Proofs.Ytbhogcecjmlomaa
open Go.RowKit

/-- All up to a new box of one cell is as it was when the box was made. -/
structure Boxed (w : World) (v : Value) (t : TypeId) (w' : World) : Prop where
  up : Below (w.heap.size + 1) (w.alloc (.cells #[v] t)) w'
section
variable {w w' w'' : World} {v : Value} {t : TypeId}
theorem Boxed.start (w : World) (v : Value) (t : TypeId) : Boxed w v t (w.alloc (.cells #[v] t)) := ⟨Below.refl _ _⟩
theorem Boxed.below (h : Boxed w v t w') : Below w.heap.size w w' := (box_below w _).trans (h.up.mono (Nat.le_succ _))
theorem Boxed.size (h : Boxed w v t w') : w.heap.size + 1 ≤ w'.heap.size := by have := h.up.size; simpa using this
theorem Boxed.step (h : Boxed w v t w') (hb : Below w'.heap.size w' w'') : Boxed w v t w'' := ⟨h.up.trans (hb.mono h.size)⟩
theorem Boxed.cell (h : Boxed w v t w') : w'.cell? ⟨w.heap.size, 0, none⟩ = some v := (h.up.cell (p := ⟨w.heap.size, 0, none⟩) (Nat.lt_succ_self _)).trans (box_cell w v t)
theorem Boxed.row (h : Boxed w v t w') : w'.rowIs w.heap.size t 1 (fun _ => v) := (row_box w v t).of_block (h.up.block _ (Nat.lt_succ_self _))
end
end Go.Proofs.Ytbhogcecjmlomaa
