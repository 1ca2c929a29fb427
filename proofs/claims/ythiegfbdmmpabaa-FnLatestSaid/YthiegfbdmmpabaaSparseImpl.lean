/- What is proved here: plain facts on the rows of a sparse table, and memory that holds rows which a call appends one by one. No conditions. -/
import Derived.Test.YthiegfbdmmpabaaRowsMarks
import Derived.Test.YthiegfbdmmpabaaSpecTour
import Derived.Deep.AppendLies
import Derived.Deep.RegionLaw
namespace Go.Proofs.Ythiegfbdmmpabaa
open Go.RowKit

def minI (a b : Int) : Int := if a < b then a else b
/-- Row k of the sparse table of l: the minima of 2^k numbers. -/
def spRow (l : List Int) : Nat → List Int
  | 0 => l
  | k + 1 => (List.range (l.length + 1 - 2 ^ (k + 1))).map fun i => minI ((spRow l k)[i]?.getD 0) ((spRow l k)[i + 2 ^ k]?.getD 0)
theorem spRow_len (l : List Int) : ∀ k, (spRow l k).length = l.length + 1 - 2 ^ k
  | 0 => by simp [spRow]
  | k + 1 => by simp [spRow]
/-- The first j numbers of row k + 1. -/
def spPart (l : List Int) (k j : Nat) : List Int := (List.range j).map fun i => minI ((spRow l k)[i]?.getD 0) ((spRow l k)[i + 2 ^ k]?.getD 0)
theorem spPart_zero (l : List Int) (k : Nat) : spPart l k 0 = [] := rfl
theorem spPart_step (l : List Int) (k j : Nat) : spPart l k (j + 1) = spPart l k j ++ [minI ((spRow l k)[j]?.getD 0) ((spRow l k)[j + 2 ^ k]?.getD 0)] := by
  unfold spPart; rw [List.range_succ, List.map_append]; rfl
theorem spPart_len (l : List Int) (k j : Nat) : (spPart l k j).length = j := by simp [spPart]
theorem spPart_all (l : List Int) (k : Nat) : spPart l k (l.length + 1 - 2 ^ (k + 1)) = spRow l (k + 1) := rfl
/-- How many rows it has. -/
def spN (n : Nat) : Nat := n.log2 + 1
theorem spN_in {n k : Nat} (hn : 0 < n) : k < spN n ↔ 2 ^ k ≤ n := by
  unfold spN
  rw [Nat.lt_succ_iff]
  exact Nat.le_log2 (by omega)
theorem spN_le {n : Nat} (hn : 0 < n) (h : n ≤ 60) : spN n ≤ 6 := by
  rcases Nat.lt_or_ge (spN n) 7 with h1 | h1
  · omega
  · have := (spN_in (k := 6) hn).1 (by omega)
    have e : (2 : Nat) ^ 6 = 64 := rfl
    omega
def spT (l : List Int) : List (List Int) := (List.range (spN l.length)).map (spRow l)
theorem spT_len (l : List Int) : (spT l).length = spN l.length := by simp [spT]
theorem spT_row {l : List Int} {k : Nat} (hk : k < spN l.length) : rowG (spT l) k = spRow l k := by
  unfold rowG spT; simp [hk]
def goodN (l : List Int) : Bool := inB l.length 1 60 && allB l 0 100000
def spR (l : List Int) : List (List Int) := if goodN l then spT l else []
theorem spR_short (l : List Int) : short (spR l) := by
  intro i
  unfold spR
  cases hg : goodN l
  · simp [rowG]
  · have hl : l.length ≤ 60 := by
      unfold goodN at hg; rw [Bool.and_eq_true, inB_iff] at hg; omega
    simp only [if_true]
    by_cases h : i < spN l.length
    · rw [spT_row h, spRow_len]; exact Nat.le_trans (Nat.sub_le _ _) (by omega)
    · unfold rowG spT
      rw [List.getElem?_eq_none (by simp; omega)]; simp
theorem spR_len (l : List Int) : (spR l).length ≤ 100 := by
  unfold spR
  cases hg : goodN l
  · simp
  · unfold goodN at hg; rw [Bool.and_eq_true, inB_iff] at hg
    simp only [if_true]
    rw [spT_len]
    have := spN_le (n := l.length) (by omega) (by omega)
    omega

/-- b rows r 0, r 1, .. that a call has made, in a slice v of its own. -/
structure RowsSt (B : Nat) (w : World) (v : Value) (b : Nat) (r : Nat → List Int) : Prop where
  own : ∃ (vals : List Value) (ad : Nat → Option Addr) (ca : Nat → Nat), w.ownsRow B 23 1 v b vals ∧
    (∀ i, i < b → vals[i]? = some (.slice (ad i) (r i).length (ca i)) ∧ OwnAt w B (ad i) (r i).length (r i) ∧ ∀ x, ad i = some x → v.ownBlock ≠ some x.block) ∧
    ∀ i j, i < b → j < b → i ≠ j → ∀ x y, ad i = some x → ad j = some y → x.block ≠ y.block
theorem owns_below' {w w' : World} {base : Nat} {e : TypeId} {size : Nat} {v : Value} {n : Nat} {xs : List Value} (h : w.ownsRow base e size v n xs) (hb : Below w.heap.size w w') : w'.ownsRow base e size v n xs :=
  h.kept (row := none) ⟨hb.os, hb.tape, hb.output, hb.size, fun k hk _ => hb.block k hk⟩ (by cases hv : v.ownBlock <;> simp)
theorem RowsSt.below {B b : Nat} {w w' : World} {v : Value} {r : Nat → List Int} (h : RowsSt B w v b r) (hb : Below w.heap.size w w') : RowsSt B w' v b r := by
  obtain ⟨vals, ad, ca, h1, h2, h3⟩ := h.own
  exact ⟨vals, ad, ca, owns_below' h1 hb, fun i hi => ⟨(h2 i hi).1, (h2 i hi).2.1.below hb, (h2 i hi).2.2⟩, h3⟩
theorem RowsSt.rows {B b : Nat} {w : World} {v : Value} {r : Nat → List Int} (h : RowsSt B w v b r) : ∃ A c, v = .slice A b c ∧ RowsOwn w B A b r := by
  obtain ⟨vals, ad, ca, ⟨hl, hh⟩, hv, hap⟩ := h.own
  rcases hh with ⟨rfl, h0⟩ | ⟨g, cap, cur, rfl, hB, hblk, hn, hm, hc, ht⟩
  · exact ⟨none, 0, by rw [h0], ⟨fun hi => absurd hi (by omega)⟩⟩
  · refine ⟨_, cap, rfl, ⟨fun _ => ⟨g, cap, fun i => cur[i]?.getD undef, rfl, hB, hn, ⟨cur, hblk, by omega, fun i hi => ?_⟩, ad, ca, fun i hi => ?_, hap⟩⟩⟩
    · show cur[i]? = some (cur[i]?.getD undef)
      rw [Array.getElem?_eq_getElem (show i < cur.size by omega), Option.getD_some]
    · obtain ⟨e, ho, hne⟩ := hv i hi
      refine ⟨?_, ho, fun x hx e' => hne x hx (by rw [e']; rfl)⟩
      have e1 : (cur.toList.take (b * 1))[i]? = vals[i]? := by rw [ht]
      rw [List.getElem?_take_of_lt (by omega), Array.getElem?_toList] at e1
      show cur[i]?.getD undef = _
      rw [e1, e]; rfl
/-- One row more. -/
theorem RowsSt.next {B : Nat} {w1 w w' : World} {v : Value} {b g cap L c H : Nat} {A : Option Addr} {r : Nat → List Int} {vals : List Value} {ad : Nat → Option Addr} {ca : Nat → Nat} (hB : B ≤ w1.heap.size)
    (hv : ∀ i, i < b → vals[i]? = some (.slice (ad i) (r i).length (ca i)) ∧ OwnAt w1 B (ad i) (r i).length (r i) ∧ ∀ x, ad i = some x → v.ownBlock ≠ some x.block)
    (hap : ∀ i j, i < b → j < b → i ≠ j → ∀ x y, ad i = some x → ad j = some y → x.block ≠ y.block)
    (hvl : vals.length = b) (hL : L = (r b).length)
    (h1 : Below w1.heap.size w1 w) (hrow : OwnAt w w1.heap.size A L (r b)) (hvb : ∀ k, v.ownBlock = some k → B ≤ k ∧ k < w1.heap.size)
    (hown : w'.ownsRow B 23 1 (.slice (some ⟨g, 0, none⟩) (b + 1) cap) (b + 1) (vals ++ [.slice A L c]))
    (hgrow : (w.alloc (.cells #[.slice A L c] 23)).grownBy w' v.ownBlock) (hat : v.ownBlock = some g ∨ g = H) (hH : (w.alloc (.cells #[.slice A L c] 23)).heap.size = H) :
    RowsSt B w' (.slice (some ⟨g, 0, none⟩) (b + 1) cap) (b + 1) r ∧ Below B w w' := by
  have hsz1 := h1.size
  have hsH : w.heap.size + 1 = H := by rw [← hH]; simp
  have hb2 : Below B w w' := (((Below.refl B w).alloc (by omega) _)).grown hgrow (by simp; omega) (fun k hk => (hvb k hk).1)
  have keep : ∀ k, k < w.heap.size → v.ownBlock ≠ some k → w'.heap[k]? = w.heap[k]? := fun k hk hne => (hgrow.block k (by simp; omega) (fun e => hne e.symm)).trans (Below.heap_alloc _ _ _ hk)
  have hsz' : w.heap.size ≤ w'.heap.size := by have := hgrow.size; simp at this; omega
  subst hL
  refine ⟨⟨vals ++ [.slice A _ c], fun i => if i = b then A else ad i, fun i => if i = b then c else ca i, hown, fun i hi => ?_, fun i j hi hj hij x y hx hy => ?_⟩, hb2⟩
  · by_cases e : i = b
    · subst e
      refine ⟨?_, ?_, fun x hx => ?_⟩
      · rw [List.getElem?_append_right (by omega)]; simp [hvl]
      · simp only [if_true]
        exact (hrow.keep hsz' (fun x hx => keep _ (hrow.low x hx).2 (fun e => by have := (hvb _ e).2; have := (hrow.low x hx).1; omega))).fewer hB
      · simp only [if_true] at hx
        have l1 := hrow.low x hx
        intro e
        have e' : g = x.block := by simpa [Value.ownBlock] using e
        rcases hat with h | h
        · have := (hvb g h).2; omega
        · omega
    · obtain ⟨a1, a2, a3⟩ := hv i (by omega)
      have a4 := a2.below h1
      refine ⟨?_, ?_, fun x hx => ?_⟩
      · rw [List.getElem?_append_left (by omega), a1]; simp [e]
      · simp only [e, if_false]
        exact a4.keep hsz' (fun x hx => keep _ (a4.low x hx).2 (a3 x hx))
      · simp only [e, if_false] at hx
        intro e'
        have e2 : g = x.block := by simpa [Value.ownBlock] using e'
        rcases hat with h | h
        · exact a3 x hx (by rw [h, e2])
        · have := (a4.low x hx).2; omega
  · by_cases e : i = b
    · have ej : j ≠ b := fun e' => hij (e.trans e'.symm)
      simp only [e, ej, if_true, if_false] at hx hy
      have l1 := (hrow.low x hx).1
      have l2 := ((hv j (by omega)).2.1.low y hy).2
      omega
    · by_cases ej : j = b
      · simp only [e, ej, if_true, if_false] at hx hy
        have l1 := (hrow.low y hy).1
        have l2 := ((hv i (by omega)).2.1.low x hx).2
        omega
      · simp only [e, ej, if_false] at hx hy
        exact hap i j (by omega) (by omega) hij x y hx hy
/-- Row i of them, to read. -/
theorem RowsSt.read {B b i : Nat} {w : World} {v : Value} {r : Nat → List Int} (h : RowsSt B w v b r) (hi : i < b) : ∃ g cap Ai ci, v = .slice (some ⟨g, 0, none⟩) b cap ∧ w.cell? ⟨g, i, none⟩ = some (.slice Ai (r i).length ci) ∧ OwnAt w B Ai (r i).length (r i) := by
  obtain ⟨vals, ad, ca, ⟨hl, hh⟩, hv, _⟩ := h.own
  rcases hh with ⟨rfl, h0⟩ | ⟨g, cap, cur, rfl, hB, hblk, hn, hm, hc, ht⟩
  · omega
  · obtain ⟨e, ho, _⟩ := hv i hi
    refine ⟨g, cap, ad i, ca i, rfl, ?_, ho⟩
    rw [cell_of_row _ _ _ _ _ _ hblk]
    have e1 : (cur.toList.take (b * 1))[i]? = vals[i]? := by rw [ht]
    rw [List.getElem?_take_of_lt (by omega), Array.getElem?_toList] at e1
    rw [e1, e]
end Go.Proofs.Ythiegfbdmmpabaa

/- What is proved here: what the model's l4Sparse returns. No conditions. -/
namespace Go.Proofs.Ythiegfbdmmpabaa
open Go.RowKit

/-- An append of a whole slice of integers in a plain walk, with where the result lies. -/
theorem appendAll {P : Program} (w : World) {ops : Array Oper} {rest : List Oper} {o : Oper} {a : Act} {Q : Exit → Act → World → Prop} (hg : o.guard = none) (s x : Operand) (t : TypeId)
    (hop : o.op = Op.call { callee := Callee.builtin Builtin.append, args := #[s, x], argTypes := #[t, t] }) (base : Nat) (i : TypeInfo)
    (h1 : P.underlying t = some (.slice 3)) (h2 : P.info? 3 = some i) (h3 : i.zero = some (.int .i64 0)) (h4 : i.size = 1) (h5 : i.bytes = 8)
    (v : Value) (ys : List Int) (hs : a.eval s = v) (hown : w.ownsRow base 3 1 v ys.length (ys.map (Value.int .i64))) (ab ao m : Nat) (c : Nat) (ls : List Int) (hl : ls.length = m) (hm : 0 < m) (hx : a.eval x = .slice (some ⟨ab, ao, none⟩) m c)
    (hc : ∀ j, j < m → w.cell? ⟨ab, ao + j, none⟩ = some (.int .i64 (ls[j]?.getD 0))) (b1 : ys.length + m ≤ 1048576) (b3 : base ≤ w.heap.size)
    (hK : ∀ g c' w', w'.ownsRow base 3 1 (.slice (some ⟨g, 0, none⟩) (ys.length + m) c') (ys ++ ls).length ((ys ++ ls).map (Value.int .i64)) → w.grownBy w' v.ownBlock → (v.ownBlock = some g ∨ g = w.heap.size) → wpList P ops Q rest (a.put o.dst (.slice (some ⟨g, 0, none⟩) (ys.length + m) c')) w') :
    wpList P ops Q (o :: rest) a w := by
  refine wpList_append_own_at w hg s x t hop base 3 i (.int .i64 0) 1 8 h1 h2 h3 h4 h5 rfl (by decide) v ys.length _ hs hown ⟨ab, ao, none⟩ m c (ls.map (Value.int .i64)) hx (by simp [hl])
    (fun j u hu => by
      rw [List.getElem?_map] at hu
      have hj : j < ls.length := by
        rcases Nat.lt_or_ge j ls.length with h | h
        · exact h
        · rw [List.getElem?_eq_none h] at hu; cases hu
      rw [Addr.add_lit, hc j (by omega)]
      rw [List.getElem?_eq_getElem hj] at hu ⊢
      exact hu)
    (by simp [Value.oneCell']) (by simp only [maxLen]; omega) (by omega) b3 ?_
  intro v' w' r1 r2 _ r4
  obtain ⟨m', rfl⟩ : ∃ m', m = m' + 1 := ⟨m - 1, by omega⟩
  obtain ⟨g, c', rfl⟩ := ownsRow_succ (k := ys.length + m') r1
  refine hK g c' w' (by simpa [hl, Nat.add_assoc] using r1) r2 ?_
  rcases r4 with e | e
  · exact .inl (by rw [← e]; rfl)
  · exact .inr (by simpa [Value.ownBlock] using e)

/-- A slice of one row. -/
theorem RowsSt.one {B n c : Nat} {w : World} {A : Option Addr} {l : List Int} {r : Nat → List Int} (h : OwnAt w B A n l) (hr : r 0 = l) (hB : B ≤ w.heap.size) :
    RowsSt B (w.alloc (.cells #[.slice A n c] 23)) (.slice (some ⟨w.heap.size, 0, none⟩) 1 1) 1 r := by
  have hb : Below w.heap.size w (w.alloc (.cells #[.slice A n c] 23)) := (Below.refl _ w).alloc (Nat.le_refl _) _
  refine ⟨[.slice A n c], fun _ => A, fun _ => c, ⟨rfl, .inr ⟨w.heap.size, 1, #[.slice A n c], rfl, hB, World.alloc_heap_new w _, Nat.le_refl _, by decide, rfl, rfl⟩⟩, fun i hi => ?_, fun i j hi hj hij => by omega⟩
  have : i = 0 := by omega
  subst this
  rw [hr, h.len]
  refine ⟨rfl, h.below hb, fun x hx e => ?_⟩
  have := (h.low x hx).2
  have e' : w.heap.size = x.block := by simpa [Value.ownBlock] using e
  omega

theorem infoInts' : (Try.prog.info? 23).map (fun i => (i.zero, i.size, i.bytes)) = some (some (.slice none 0 0), 1, 24) := by kernel_rfl
theorem wrap_nat {P : Nat} (h : P ≤ 1000) : IntKind.i64.wrap (P : Int) = (P : Int) := by rw [IntKind.wrap_i64]; omega
theorem wrap_nat2 {j P : Nat} (h : j + P ≤ 1000) : IntKind.i64.wrap ((j : Int) + (P : Int)) = ((j + P : Nat) : Int) := by rw [IntKind.wrap_i64]; omega
end Go.Proofs.Ythiegfbdmmpabaa

/- What is proved here: what the program's sparseRows returns. No conditions. -/
namespace Go.Proofs.Ythiegfbdmmpabaa
open Go.RowKit

theorem not_nil (ab ao n c : Nat) (w : World) : (binOp BinOp.eql 23 (.slice (some ⟨ab, ao, none⟩) n c) (.slice none 0 0)).run Try.prog w = .ok (.bool false) w := by kernel_rfl

theorem minI_alt (x y : Int) : (if y < x then y else x) = minI x y := by unfold minI; split <;> split <;> omega
theorem wrap64_2 {P : Nat} (h : P ≤ 1000) : wrap64 (2 * (P : Int)) = 2 * (P : Int) := by unfold wrap64; omega

end Go.Proofs.Ythiegfbdmmpabaa
