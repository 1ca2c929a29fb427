/- What is proved here: what SpansOf of the model returns. No conditions. -/
import Derived.Test.YthiegfbdmmpababSpansImpl
import Derived.Test.YthiegfbdmmpababSparseImpl
namespace Go.Proofs.Ythiegfbdmmpabab
open Go.RowKit

theorem orderL_at {xs : List (Nat × Bool)} {i k : Nat} (h : (ordN xs)[i]? = some k) : (orderL xs)[i]?.getD 0 = (k : Int) := by
  rw [orderL_eq]; unfold kidsZ; rw [List.getElem?_map, h]; rfl
theorem order_ne {ts : List Blk} (ht : Tree ts) {i j k : Nat} (hi : (pre ts 0)[i]? = some k) (hj : j < i) : (orderL (tour ts 0))[j]?.getD 0 ≠ (k : Int) := by
  have hn := pre_nodup ht _ 0 ht.pos (Nat.le_refl _)
  obtain ⟨hil, hie⟩ := List.getElem?_eq_some_iff.1 hi
  have hjl : j < (pre ts 0).length := by omega
  rw [orderL_at (k := (pre ts 0)[j]) (by show (pre ts 0)[j]? = _; exact List.getElem?_eq_getElem hjl)]
  intro e
  have e' : (pre ts 0)[j] = (pre ts 0)[i] := by rw [hie]; omega
  have := (List.getElem_inj hn).1 e'
  omega
theorem orderL_pre (ts : List Blk) (b : Nat) : (orderL (tour ts b)).length = (pre ts b).length := by rw [orderL_eq]; unfold kidsZ pre; simp
theorem RowsSt.none_ (B : Nat) (w : World) (r : Nat → List Int) : RowsSt B w (.slice none 0 0) 0 r :=
  ⟨[], fun _ => none, fun _ => 0, World.ownsRow_nil _ _ _ _, fun _ h => absurd h (Nat.not_lt_zero _), fun _ _ h => absurd h (Nat.not_lt_zero _)⟩
theorem own_two {w : World} (x y : Int) : OwnAt (w.alloc (.cells #[.int .i64 x, .int .i64 y] 3)) w.heap.size (some ⟨w.heap.size, 0, none⟩) 2 [x, y] :=
  ⟨rfl, fun _ => ⟨w.heap.size, 2, fun j => if j = 0 then .int .i64 x else .int .i64 y, rfl, Nat.le_refl _, ⟨_, World.alloc_heap_new w _, rfl, fun j hj => by
      have : j = 0 ∨ j = 1 := by omega
      rcases this with rfl | rfl <;> rfl⟩, fun j hj => by
      have : j = 0 ∨ j = 1 := by omega
      rcases this with rfl | rfl <;> rfl⟩, fun ad e => by cases e; exact ⟨Nat.le_refl _, by simp⟩⟩

end Go.Proofs.Ythiegfbdmmpabab
