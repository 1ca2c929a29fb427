/- What is proved here: what the model's l4Order and l4Tour append. No conditions. -/
import Derived.Test.YthiegfbdmmpababSpecTour
namespace Go.Proofs.Ythiegfbdmmpabab
open Go.RowKit

/-- From w to w' nothing that lay has turned but v's own block, and v' lies there or in a new block. -/
structure Grows (w : World) (v : Value) (w' : World) (v' : Value) : Prop where
  by_ : w.grownBy w' v.ownBlock
  at_ : v'.ownBlock = v.ownBlock ∨ ∃ g, v'.ownBlock = some g ∧ w.heap.size ≤ g
theorem Grows.trans {w w1 w2 : World} {v v1 v2 : Value} (h : Grows w v w1 v1) (k : Grows w1 v1 w2 v2) : Grows w v w2 v2 := by
  have hs := h.by_.size
  refine ⟨⟨k.by_.os.trans h.by_.os, k.by_.tape.trans h.by_.tape, k.by_.output.trans h.by_.output, Nat.le_trans hs k.by_.size, fun i hi hne => (k.by_.block i (Nat.lt_of_lt_of_le hi hs) (fun e => ?_)).trans (h.by_.block i hi hne)⟩, ?_⟩
  · rcases h.at_ with e1 | ⟨g, e1, hg⟩
    · exact hne (e.trans e1)
    · rw [e1] at e; injection e with e; omega
  · rcases k.at_ with e2 | ⟨g, e2, hg⟩
    · rcases h.at_ with e1 | ⟨g, e1, hg⟩
      · exact .inl (e2.trans e1)
      · exact .inr ⟨g, e2.trans e1, hg⟩
    · exact .inr ⟨g, e2, Nat.le_trans hs hg⟩
theorem Grows.still {w w' : World} (v : Value) (h : Below w.heap.size w w') : Grows w v w' v := ⟨⟨h.os, h.tape, h.output, h.size, fun k hk _ => h.block k hk⟩, .inl rfl⟩
theorem Grows.append {w w1 : World} {v : Value} {tmp : Obj} {g n c : Nat} (h : (w.alloc tmp).grownBy w1 v.ownBlock) (hat : v.ownBlock = some g ∨ g = (w.alloc tmp).heap.size) : Grows w v w1 (.slice (some ⟨g, 0, none⟩) n c) := by
  have hz : (w.alloc tmp).heap.size = w.heap.size + 1 := by simp
  have hs := h.size
  refine ⟨⟨h.os, h.tape, h.output, by omega, fun k hk hne => (h.block k (by omega) hne).trans (Below.heap_alloc w tmp k hk)⟩, ?_⟩
  rcases hat with e | e
  · exact .inl (by rw [e]; rfl)
  · exact .inr ⟨g, rfl, by omega⟩
theorem Grows.below {w w' : World} {v v' : Value} {B : Nat} (h : Grows w v w' v') (hB : B ≤ w.heap.size) (hv : ∀ g, v.ownBlock = some g → B ≤ g) : Below B w w' :=
  (Below.refl B w).grown h.by_ hB (fun k e => hv k e)
def GrowPost (w : World) (base : Nat) (v : Value) (zs : List Int) (e : Ending) (w' : World) : Prop :=
  ∃ v', e = .returned v' ∧ w'.ownsRow base 3 1 v' zs.length (zs.map (Value.int .i64)) ∧ Grows w v w' v'

theorem orderL_cons (x : Nat) (xs : List (Nat × Bool)) : orderL ((x, true) :: xs) = (x : Int) :: orderL xs := by simp [orderL]
theorem orderL_append (xs ys : List (Nat × Bool)) : orderL (xs ++ ys) = orderL xs ++ orderL ys := by simp [orderL]
theorem orderL_part {ts : List Blk} {b : Nat} (cs : List Nat) (x : Nat) : orderL (tourPart ts b (cs ++ [x])) = orderL (tourPart ts b cs) ++ orderL (tour ts x) := by
  rw [tourPart_snoc, orderL_no, orderL_append]
theorem tourL_part {ts : List Blk} {b : Nat} (cs : List Nat) (x : Nat) : tourL (tourPart ts b (cs ++ [x])) = tourL (tourPart ts b cs) ++ tourL (tour ts x) ++ [(b : Int)] := by
  rw [tourPart_snoc]; simp [tourL]
theorem take_snoc {l : List Nat} {j : Nat} (h : j < l.length) : l.take (j + 1) = l.take j ++ [l[j]?.getD 0] := by
  rw [List.take_succ_eq_append_getElem h, List.getElem?_eq_getElem h]; rfl
theorem kidsZ_at {l : List Nat} {j : Nat} (h : j < l.length) : (kidsZ l)[j]?.getD 0 = ((l[j]?.getD 0 : Nat) : Int) := by
  unfold kidsZ; rw [List.getElem?_map, List.getElem?_eq_getElem h]; rfl

end Go.Proofs.Ythiegfbdmmpabab
