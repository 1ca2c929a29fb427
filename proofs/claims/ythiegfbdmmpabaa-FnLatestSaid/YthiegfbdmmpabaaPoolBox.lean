/- What is proved here: boxes made one after the other; the return of a struct that lies in a cell beside a bool; what a call that returns a pool leaves. No conditions. -/
import Derived.Test.YthiegfbdmmpabaaPoolRes
import Derived.Test.YthiegfbdmmpabaaVoteApp
import Derived.Test.YthiegfbdmmpabaaTrimFacts
namespace Go.Proofs.Ythiegfbdmmpabaa
open Go.RowKit

theorem results_row2 {P : Program} {fn : Func} {p u : Tmp} {ty : TypeId} (h : fn.results = #[.cell p ty, .tmp u]) (tmps : Array Value) (w : World) (g : Nat) (t : TypeId) (cs : Array Value) (fr : Nat × Nat) (d : TypeDesc)
    (hp : tmps.getD p undef = .pointer (some ⟨g, 0, none⟩)) (hg : w.heap[g]? = some (.cells cs t fr))
    (hu : P.underlying ty = some d) (hd : (match d with | .struct _ | .array _ _ => true | _ => false) = true) (hi : (P.info? ty).map (·.size) = some cs.size) :
    (results fn tmps).run P w = .ok (.tuple #[.agg cs, tmps.getD u undef]) w := by
  rw [results_cell_tmp h, hp]
  simp [asAddr, run_loadVar_row w g t ty cs fr d hg hu hd hi]

def RetPool (w : World) (b : Bool) (vs : List Vt) (e : Ending) (w' : World) : Prop :=
  ∃ A n c, e = .returned (.tuple #[.agg #[.slice A n c], .bool b]) ∧ OwnV w' w.heap.size A n vs ∧ Below w.heap.size w w'
def RetPl (w : World) (vs : List Vt) (e : Ending) (w' : World) : Prop :=
  ∃ A n c, e = .returned (.agg #[.slice A n c]) ∧ OwnV w' w.heap.size A n vs ∧ Below w.heap.size w w'

theorem bx1_rows (w : World) (v1 : Value) (t1 : TypeId) : (w.alloc (.cells #[v1] t1)).rowIs w.heap.size t1 1 (fun _ => v1) ∧ Below w.heap.size w (w.alloc (.cells #[v1] t1)) ∧ (w.alloc (.cells #[v1] t1)).heap.size = w.heap.size + 1 :=
  ⟨bx_row w v1 t1, bx_below w _, by simp⟩
theorem bx2_rows (w : World) (v1 v2 : Value) (t1 t2 : TypeId) : ((w.alloc (.cells #[v1] t1)).alloc (.cells #[v2] t2)).rowIs w.heap.size t1 1 (fun _ => v1) ∧ ((w.alloc (.cells #[v1] t1)).alloc (.cells #[v2] t2)).rowIs (w.heap.size + 1) t2 1 (fun _ => v2) ∧
    Below w.heap.size w ((w.alloc (.cells #[v1] t1)).alloc (.cells #[v2] t2)) ∧ ((w.alloc (.cells #[v1] t1)).alloc (.cells #[v2] t2)).heap.size = w.heap.size + 2 := by
  obtain ⟨r1, b1, s1⟩ := bx1_rows w v1 t1
  have r2 := bx_row (w.alloc (.cells #[v1] t1)) v2 t2
  have b2 := bx_below (w.alloc (.cells #[v1] t1)) (.cells #[v2] t2)
  have q1 := rowIs_below r1 b2 r1.lt
  rw [s1] at r2
  exact ⟨q1, r2, b1.trans (b2.mono b1.size), by simp⟩
theorem bx3_rows (w : World) (v1 v2 v3 : Value) (t1 t2 t3 : TypeId) : (((w.alloc (.cells #[v1] t1)).alloc (.cells #[v2] t2)).alloc (.cells #[v3] t3)).rowIs w.heap.size t1 1 (fun _ => v1) ∧ (((w.alloc (.cells #[v1] t1)).alloc (.cells #[v2] t2)).alloc (.cells #[v3] t3)).rowIs (w.heap.size + 1) t2 1 (fun _ => v2) ∧
    (((w.alloc (.cells #[v1] t1)).alloc (.cells #[v2] t2)).alloc (.cells #[v3] t3)).rowIs (w.heap.size + 2) t3 1 (fun _ => v3) ∧
    Below w.heap.size w (((w.alloc (.cells #[v1] t1)).alloc (.cells #[v2] t2)).alloc (.cells #[v3] t3)) ∧ (((w.alloc (.cells #[v1] t1)).alloc (.cells #[v2] t2)).alloc (.cells #[v3] t3)).heap.size = w.heap.size + 3 := by
  obtain ⟨r1, r2, b1, s1⟩ := bx2_rows w v1 v2 t1 t2
  have r3 := bx_row ((w.alloc (.cells #[v1] t1)).alloc (.cells #[v2] t2)) v3 t3
  have b2 := bx_below ((w.alloc (.cells #[v1] t1)).alloc (.cells #[v2] t2)) (.cells #[v3] t3)
  have q1 := rowIs_below r1 b2 r1.lt
  have q2 := rowIs_below r2 b2 r2.lt
  rw [s1] at r3
  exact ⟨q1, q2, r3, b1.trans (b2.mono b1.size), by simp⟩
theorem bx4_rows (w : World) (v1 v2 v3 v4 : Value) (t1 t2 t3 t4 : TypeId) : ((((w.alloc (.cells #[v1] t1)).alloc (.cells #[v2] t2)).alloc (.cells #[v3] t3)).alloc (.cells #[v4] t4)).rowIs w.heap.size t1 1 (fun _ => v1) ∧ ((((w.alloc (.cells #[v1] t1)).alloc (.cells #[v2] t2)).alloc (.cells #[v3] t3)).alloc (.cells #[v4] t4)).rowIs (w.heap.size + 1) t2 1 (fun _ => v2) ∧
    ((((w.alloc (.cells #[v1] t1)).alloc (.cells #[v2] t2)).alloc (.cells #[v3] t3)).alloc (.cells #[v4] t4)).rowIs (w.heap.size + 2) t3 1 (fun _ => v3) ∧ ((((w.alloc (.cells #[v1] t1)).alloc (.cells #[v2] t2)).alloc (.cells #[v3] t3)).alloc (.cells #[v4] t4)).rowIs (w.heap.size + 3) t4 1 (fun _ => v4) ∧
    Below w.heap.size w ((((w.alloc (.cells #[v1] t1)).alloc (.cells #[v2] t2)).alloc (.cells #[v3] t3)).alloc (.cells #[v4] t4)) ∧ ((((w.alloc (.cells #[v1] t1)).alloc (.cells #[v2] t2)).alloc (.cells #[v3] t3)).alloc (.cells #[v4] t4)).heap.size = w.heap.size + 4 := by
  obtain ⟨r1, r2, r3, b1, s1⟩ := bx3_rows w v1 v2 v3 t1 t2 t3
  have r4 := bx_row (((w.alloc (.cells #[v1] t1)).alloc (.cells #[v2] t2)).alloc (.cells #[v3] t3)) v4 t4
  have b2 := bx_below (((w.alloc (.cells #[v1] t1)).alloc (.cells #[v2] t2)).alloc (.cells #[v3] t3)) (.cells #[v4] t4)
  have q1 := rowIs_below r1 b2 r1.lt
  have q2 := rowIs_below r2 b2 r2.lt
  have q3 := rowIs_below r3 b2 r3.lt
  rw [s1] at r4
  exact ⟨q1, q2, q3, r4, b1.trans (b2.mono b1.size), by simp⟩
theorem keep_set {w : World} {g b : Nat} {t t' : TypeId} {f f' : Nat → Value} (_hz : w.rowIs g t 1 f) (hx : w.rowIs b t' 1 f') (hb : b < g) (v : Value) : (w.setCell ⟨g, 0, none⟩ v).cell? ⟨b, 0, none⟩ = some (f' 0) :=
  (hx.setOther (a := ⟨g, 0, none⟩) (by show b ≠ g; omega) v).cell (i := 0) (by omega)
/-- A store into a box of one's own leaves a slice elsewhere as it was. -/
theorem OwnV.setBox {w : World} {B n g : Nat} {A : Option Addr} {vs : List Vt} (h : OwnV w B A n vs) (hg : g < B) (v : Value) : OwnV (w.setCell ⟨g, 0, none⟩ v) B A n vs :=
  h.keep (by simp) (fun ad e => Below.heap_setCell w _ _ ad.block (by have := (h.low ad e).1; show ad.block ≠ g; omega))
end Go.Proofs.Ythiegfbdmmpabaa
