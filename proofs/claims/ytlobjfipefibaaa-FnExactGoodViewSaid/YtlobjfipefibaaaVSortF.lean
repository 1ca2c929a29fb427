/- What is proved here: a list of votes that a call owns, sorted by Go's library. No conditions but lengths. -/
import Derived.Test.YtlobjfipefibaaaVSet
import Derived.Test.YtlobjfipefibaaaVotePool
import Derived.Sort.OwnSortedInts
import Derived.Deep.Onto
namespace Go.Proofs.Ytlobjfipefibaaa
open Go.RowKit Go.Sort Go.Shelf Go.Lib

theorem holds_of_blockF {w : World} {g : Nat} {cur : Array Value} {e : TypeId} (F : Array Value) (hb : w.heap[g]? = some (.cells cur e (0, 0))) (ht : cur.toList.take F.size = F.toList) : Holds id w g 0 F := by
  intro j hj
  refine ⟨?_, by simp [World.frozen?, hb]⟩
  have h1 : (cur.toList.take F.size)[j]? = F.toList[j]? := by rw [ht]
  rw [List.getElem?_take_of_lt hj] at h1
  simp only [World.cell?, hb, Nat.zero_add]
  simp only [Option.isSome_none, Bool.false_eq_true, if_false]
  rw [← Array.getElem?_toList, h1]
  simp [hj]
theorem heap_sortedF {w : World} {g n : Nat} {os : Array Obj} {cur : Array Value} {e : TypeId} {fr : Nat × Nat} (F : Array Value) (hb : w.heap[g]? = some (.cells cur e fr)) :
    (grow (putRow id (Sort.ahead w n) g 0 F) os).heap[g]? = some (.cells (putCells id 0 F cur) e fr) := by
  have hg : g < w.heap.size := (Array.getElem?_eq_some_iff.1 hb).1
  rw [heap_grow_old _ _ (by simpa using hg)]
  simp [putRow, mapBlock, Sort.ahead, Array.getElem?_modify, hb, onCells]
theorem grownBy_sortedF {w : World} {g n : Nat} {os : Array Obj} (F : Array Value) : w.grownBy (grow (putRow id (Sort.ahead w n) g 0 F) os) (some g) := by
  refine ⟨rfl, rfl, rfl, by simp, fun k hk hne => ?_⟩
  rw [heap_grow_old _ _ (by simpa using hk)]
  have : g ≠ k := fun e => hne (by rw [e])
  simp [putRow, mapBlock, Sort.ahead, Array.getElem?_modify, this]
theorem take_putCellsF (cur : Array Value) (F : Array Value) (h : F.size ≤ cur.size) : (putCells id 0 F cur).toList.take F.size = F.toList := by
  apply List.ext_getElem?
  intro j
  by_cases hj : j < F.size
  · rw [List.getElem?_take_of_lt hj, Array.getElem?_toList]
    simp [putCells, hj, show j < cur.size by omega]
  · rw [List.getElem?_take_eq_none (by omega), List.getElem?_eq_none (by simp; omega)]
theorem ownsRow_sortedF {w : World} {base g cap n m k : Nat} {e : TypeId} {os : Array Obj} {cur : Array Value} (F : Array Value) (hbase : base ≤ g) (hb : w.heap[g]? = some (.cells cur e (0, 0)))
    (h1 : m ≤ cap) (h2 : cap ≤ maxLen) (h3 : cur.size = cap * k) (hF : F.size = m * k) :
    (grow (putRow id (Sort.ahead w n) g 0 F) os).ownsRow base e k (.slice (some ⟨g, 0, none⟩) m cap) m F.toList :=
  ⟨by simp [hF], .inr ⟨g, cap, _, rfl, hbase, heap_sortedF _ hb, h1, h2, by simp [putCells, h3], by rw [← hF]; exact take_putCellsF cur F (by rw [hF, h3]; exact Nat.mul_le_mul_right k h1)⟩⟩

def encV (v : Vt) : List Value := [.int .i64 v.1, .int .i64 v.2.1, .int .i64 v.2.2]
theorem flatK_V (ss : List Vt) : (flatK encV 3 ss.toArray).toList = flatV ss := by
  apply List.ext_getElem?
  intro t
  by_cases ht : t < ss.length * 3
  · rw [flatV_get ss t ht, Array.getElem?_toList]
    have hs : t < (flatK encV 3 ss.toArray).size := by simpa using ht
    rw [Array.getElem?_eq_getElem hs, ← getElem!_pos _ t hs, get_flatK _ _ _ t (by simpa using ht)]
    have hq : t / 3 < ss.length := by omega
    have e : ss.toArray[t / 3]! = getV ss (t / 3) := by rw [getV_at hq]; simp [hq]
    rw [e]
    unfold cellsV encV
    have h3 : t % 3 = 0 ∨ t % 3 = 1 ∨ t % 3 = 2 := by omega
    rcases h3 with h | h | h <;> rw [h] <;> simp
  · rw [List.getElem?_eq_none (by simp; omega), List.getElem?_eq_none (by rw [flatV_len]; omega)]

set_option maxRecDepth 100000 in
set_option maxHeartbeats 800000 in
theorem compareV_g (a1 a2 a3 b1 b2 b3 : Int) (w : World) : Calls Try.prog 110 #[.agg #[.int .i64 a1, .int .i64 a2, .int .i64 a3], .agg #[.int .i64 b1, .int .i64 b2, .int .i64 b3]] w fun e w' => e = .returned (.int .i64 (cmpV (a1, a2, a3) (b1, b2, b3))) ∧ ∃ q os', w' = grow (w.drewN q) os' := by
  have hr := Lib.hid (cmpV_or (a1, a2, a3) (b1, b2, b3))
  obtain ⟨W, hW, c1, c2, c3, d1, d2, d3, hb, hs⟩ := two_boxes w a1 a2 a3 b1 b2 b3 53
  have hW' := Lib.hid hW
  clear hb hW
  go_enter Try.func110, Try.ntmps110
  go_wp2_with fail
  rw [hW'.out]
  generalize w.heap.size + 1 = g2 at d1 d2 d3 hs ⊢
  generalize w.heap.size = g1 at c1 c2 c3 hs ⊢
  go_still_tail 15, (by kernel_rfl)
  still_call (compareI_any _ _ _)
  repeat still_step
  still_call (compareI_any _ _ _)
  repeat still_step
  still_call (compareI_any _ _ _)
  repeat still_step
  try refine wpStill_nil ?_
  change wpList _ _ _ _ _ W.drew
  obtain ⟨V, hV⟩ : ∃ V, W.drew = V := ⟨_, rfl⟩
  have hV' := Lib.hid hV
  rw [hV]
  obtain ⟨r0, r1, r2⟩ := row_three V (cmpI a1 b1) (cmpI a2 b2) (cmpI a3 b3)
  clear hV
  go_wp2_with fail
  refine (or3_any V.heap.size _ _ _ _ r0 r1 r2).mono ?_
  rintro e w' ⟨rfl, rfl⟩
  go_wp2_with fail
  go_ret
  refine ⟨ret_int hr.out.symm, 1, #[.cells #[.int .i64 a1, .int .i64 a2, .int .i64 a3] 53, .cells #[.int .i64 b1, .int .i64 b2, .int .i64 b3] 53, .cells #[.int .i64 (cmpI a1 b1), .int .i64 (cmpI a2 b2), .int .i64 (cmpI a3 b3)] 3], ?_⟩
  rw [← hV'.out, ← hW'.out, alloc_eq_grow, alloc_eq_grow, alloc_eq_grow, grow_grow]
  show grow (grow w.drew _) _ = _
  rw [grow_grow]
  rfl
theorem cmpLays_V (blk off size : Nat) (w : World) : CmpLays Try.prog 110 #[] encV 3 cmpV blk off size w :=
  fun _ _ _ _ x y => by
    obtain ⟨a1, a2, a3⟩ := x
    obtain ⟨b1, b2, b3⟩ := y
    exact compareV_g a1 a2 a3 b1 b2 b3 _
end Go.Proofs.Ytlobjfipefibaaa
