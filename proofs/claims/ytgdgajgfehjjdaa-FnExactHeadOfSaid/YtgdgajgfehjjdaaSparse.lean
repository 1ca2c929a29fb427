/- What is proved here: plain facts on the rows of a sparse table, and memory that holds rows which a call appends one by one. No conditions. -/
import Derived.Test.YtgdgajgfehjjdaaRowsMarks
import Derived.Test.YtgdgajgfehjjdaaSpecTour
import Derived.Deep.AppendLies
namespace Go.Proofs.Ytgdgajgfehjjdaa
open Go.RowKit

def minI (a b : Int) : Int := if a < b then a else b
/-- Row k of the sparse table of l: the minima of 2^k numbers. -/
def spRow (l : List Int) : Nat → List Int
  | 0 => l
  | k + 1 => (List.range (l.length + 1 - 2 ^ (k + 1))).map fun i => minI ((spRow l k)[i]?.getD 0) ((spRow l k)[i + 2 ^ k]?.getD 0)
theorem spRow_len (l : List Int) : ∀ k, (spRow l k).length = l.length + 1 - 2 ^ k
  | 0 => by simp [spRow]
  | k + 1 => by simp [spRow]
/-- The first j numbers of row k + 1. -/
def spPart (l : List Int) (k j : Nat) : List Int := (List.range j).map fun i => minI ((spRow l k)[i]?.getD 0) ((spRow l k)[i + 2 ^ k]?.getD 0)
theorem spPart_zero (l : List Int) (k : Nat) : spPart l k 0 = [] := rfl
theorem spPart_step (l : List Int) (k j : Nat) : spPart l k (j + 1) = spPart l k j ++ [minI ((spRow l k)[j]?.getD 0) ((spRow l k)[j + 2 ^ k]?.getD 0)] := by
  unfold spPart; rw [List.range_succ, List.map_append]; rfl
theorem spPart_len (l : List Int) (k j : Nat) : (spPart l k j).length = j := by simp [spPart]
theorem spPart_all (l : List Int) (k : Nat) : spPart l k (l.length + 1 - 2 ^ (k + 1)) = spRow l (k + 1) := rfl
/-- How many rows it has. -/
def spN (n : Nat) : Nat := n.log2 + 1
theorem spN_in {n k : Nat} (hn : 0 < n) : k < spN n ↔ 2 ^ k ≤ n := by
  unfold spN
  rw [Nat.lt_succ_iff]
  exact Nat.le_log2 (by omega)
theorem spN_le {n : Nat} (hn : 0 < n) (h : n ≤ 60) : spN n ≤ 6 := by
  rcases Nat.lt_or_ge (spN n) 7 with h1 | h1
  · omega
  · have := (spN_in (k := 6) hn).1 (by omega)
    have e : (2 : Nat) ^ 6 = 64 := rfl
    omega
def spT (l : List Int) : List (List Int) := (List.range (spN l.length)).map (spRow l)
theorem spT_len (l : List Int) : (spT l).length = spN l.length := by simp [spT]
theorem spT_row {l : List Int} {k : Nat} (hk : k < spN l.length) : rowG (spT l) k = spRow l k := by
  unfold rowG spT; simp [hk]
def goodN (l : List Int) : Bool := inB l.length 1 60 && allB l 0 100000
def spR (l : List Int) : List (List Int) := if goodN l then spT l else []
theorem spR_short (l : List Int) : short (spR l) := by
  intro i
  unfold spR
  cases hg : goodN l
  · simp [rowG]
  · have hl : l.length ≤ 60 := by
      unfold goodN at hg; rw [Bool.and_eq_true, inB_iff] at hg; omega
    simp only [if_true]
    by_cases h : i < spN l.length
    · rw [spT_row h, spRow_len]; exact Nat.le_trans (Nat.sub_le _ _) (by omega)
    · unfold rowG spT
      rw [List.getElem?_eq_none (by simp; omega)]; simp
theorem spR_len (l : List Int) : (spR l).length ≤ 100 := by
  unfold spR
  cases hg : goodN l
  · simp
  · unfold goodN at hg; rw [Bool.and_eq_true, inB_iff] at hg
    simp only [if_true]
    rw [spT_len]
    have := spN_le (n := l.length) (by omega) (by omega)
    omega

/-- b rows r 0, r 1, .. that a call has made, in a slice v of its own. -/
structure RowsSt (B : Nat) (w : World) (v : Value) (b : Nat) (r : Nat → List Int) : Prop where
  own : ∃ (vals : List Value) (ad : Nat → Option Addr) (ca : Nat → Nat), w.ownsRow B 23 1 v b vals ∧
    (∀ i, i < b → vals[i]? = some (.slice (ad i) (r i).length (ca i)) ∧ OwnAt w B (ad i) (r i).length (r i) ∧ ∀ x, ad i = some x → v.ownBlock ≠ some x.block) ∧
    ∀ i j, i < b → j < b → i ≠ j → ∀ x y, ad i = some x → ad j = some y → x.block ≠ y.block
theorem owns_below' {w w' : World} {base : Nat} {e : TypeId} {size : Nat} {v : Value} {n : Nat} {xs : List Value} (h : w.ownsRow base e size v n xs) (hb : Below w.heap.size w w') : w'.ownsRow base e size v n xs :=
  h.kept (row := none) ⟨hb.os, hb.tape, hb.output, hb.size, fun k hk _ => hb.block k hk⟩ (by cases hv : v.ownBlock <;> simp)
theorem RowsSt.below {B b : Nat} {w w' : World} {v : Value} {r : Nat → List Int} (h : RowsSt B w v b r) (hb : Below w.heap.size w w') : RowsSt B w' v b r := by
  obtain ⟨vals, ad, ca, h1, h2, h3⟩ := h.own
  exact ⟨vals, ad, ca, owns_below' h1 hb, fun i hi => ⟨(h2 i hi).1, (h2 i hi).2.1.below hb, (h2 i hi).2.2⟩, h3⟩
theorem RowsSt.rows {B b : Nat} {w : World} {v : Value} {r : Nat → List Int} (h : RowsSt B w v b r) : ∃ A c, v = .slice A b c ∧ RowsOwn w B A b r := by
  obtain ⟨vals, ad, ca, ⟨hl, hh⟩, hv, hap⟩ := h.own
  rcases hh with ⟨rfl, h0⟩ | ⟨g, cap, cur, rfl, hB, hblk, hn, hm, hc, ht⟩
  · exact ⟨none, 0, by rw [h0], ⟨fun hi => absurd hi (by omega)⟩⟩
  · refine ⟨_, cap, rfl, ⟨fun _ => ⟨g, cap, fun i => cur[i]?.getD undef, rfl, hB, hn, ⟨cur, hblk, by omega, fun i hi => ?_⟩, ad, ca, fun i hi => ?_, hap⟩⟩⟩
    · show cur[i]? = some (cur[i]?.getD undef)
      rw [Array.getElem?_eq_getElem (show i < cur.size by omega), Option.getD_some]
    · obtain ⟨e, ho, hne⟩ := hv i hi
      refine ⟨?_, ho, fun x hx e' => hne x hx (by rw [e']; rfl)⟩
      have e1 : (cur.toList.take (b * 1))[i]? = vals[i]? := by rw [ht]
      rw [List.getElem?_take_of_lt (by omega), Array.getElem?_toList] at e1
      show cur[i]?.getD undef = _
      rw [e1, e]; rfl
/-- One row more. -/
theorem RowsSt.next {B : Nat} {w1 w w' : World} {v : Value} {b g cap L c H : Nat} {A : Option Addr} {r : Nat → List Int} {vals : List Value} {ad : Nat → Option Addr} {ca : Nat → Nat} (hB : B ≤ w1.heap.size)
    (hv : ∀ i, i < b → vals[i]? = some (.slice (ad i) (r i).length (ca i)) ∧ OwnAt w1 B (ad i) (r i).length (r i) ∧ ∀ x, ad i = some x → v.ownBlock ≠ some x.block)
    (hap : ∀ i j, i < b → j < b → i ≠ j → ∀ x y, ad i = some x → ad j = some y → x.block ≠ y.block)
    (hvl : vals.length = b) (hL : L = (r b).length)
    (h1 : Below w1.heap.size w1 w) (hrow : OwnAt w w1.heap.size A L (r b)) (hvb : ∀ k, v.ownBlock = some k → B ≤ k ∧ k < w1.heap.size)
    (hown : w'.ownsRow B 23 1 (.slice (some ⟨g, 0, none⟩) (b + 1) cap) (b + 1) (vals ++ [.slice A L c]))
    (hgrow : (w.alloc (.cells #[.slice A L c] 23)).grownBy w' v.ownBlock) (hat : v.ownBlock = some g ∨ g = H) (hH : (w.alloc (.cells #[.slice A L c] 23)).heap.size = H) :
    RowsSt B w' (.slice (some ⟨g, 0, none⟩) (b + 1) cap) (b + 1) r ∧ Below B w w' := by
  have hsz1 := h1.size
  have hsH : w.heap.size + 1 = H := by rw [← hH]; simp
  have hb2 : Below B w w' := (((Below.refl B w).alloc (by omega) _)).grown hgrow (by simp; omega) (fun k hk => (hvb k hk).1)
  have keep : ∀ k, k < w.heap.size → v.ownBlock ≠ some k → w'.heap[k]? = w.heap[k]? := fun k hk hne => (hgrow.block k (by simp; omega) (fun e => hne e.symm)).trans (Below.heap_alloc _ _ _ hk)
  have hsz' : w.heap.size ≤ w'.heap.size := by have := hgrow.size; simp at this; omega
  subst hL
  refine ⟨⟨vals ++ [.slice A _ c], fun i => if i = b then A else ad i, fun i => if i = b then c else ca i, hown, fun i hi => ?_, fun i j hi hj hij x y hx hy => ?_⟩, hb2⟩
  · by_cases e : i = b
    · subst e
      refine ⟨?_, ?_, fun x hx => ?_⟩
      · rw [List.getElem?_append_right (by omega)]; simp [hvl]
      · simp only [if_true]
        exact (hrow.keep hsz' (fun x hx => keep _ (hrow.low x hx).2 (fun e => by have := (hvb _ e).2; have := (hrow.low x hx).1; omega))).fewer hB
      · simp only [if_true] at hx
        have l1 := hrow.low x hx
        intro e
        have e' : g = x.block := by simpa [Value.ownBlock] using e
        rcases hat with h | h
        · have := (hvb g h).2; omega
        · omega
    · obtain ⟨a1, a2, a3⟩ := hv i (by omega)
      have a4 := a2.below h1
      refine ⟨?_, ?_, fun x hx => ?_⟩
      · rw [List.getElem?_append_left (by omega), a1]; simp [e]
      · simp only [e, if_false]
        exact a4.keep hsz' (fun x hx => keep _ (a4.low x hx).2 (a3 x hx))
      · simp only [e, if_false] at hx
        intro e'
        have e2 : g = x.block := by simpa [Value.ownBlock] using e'
        rcases hat with h | h
        · exact a3 x hx (by rw [h, e2])
        · have := (a4.low x hx).2; omega
  · by_cases e : i = b
    · have ej : j ≠ b := fun e' => hij (e.trans e'.symm)
      simp only [e, ej, if_true, if_false] at hx hy
      have l1 := (hrow.low x hx).1
      have l2 := ((hv j (by omega)).2.1.low y hy).2
      omega
    · by_cases ej : j = b
      · simp only [e, ej, if_true, if_false] at hx hy
        have l1 := (hrow.low y hy).1
        have l2 := ((hv i (by omega)).2.1.low x hx).2
        omega
      · simp only [e, ej, if_false] at hx hy
        exact hap i j (by omega) (by omega) hij x y hx hy
/-- Row i of them, to read. -/
theorem RowsSt.read {B b i : Nat} {w : World} {v : Value} {r : Nat → List Int} (h : RowsSt B w v b r) (hi : i < b) : ∃ g cap Ai ci, v = .slice (some ⟨g, 0, none⟩) b cap ∧ w.cell? ⟨g, i, none⟩ = some (.slice Ai (r i).length ci) ∧ OwnAt w B Ai (r i).length (r i) := by
  obtain ⟨vals, ad, ca, ⟨hl, hh⟩, hv, _⟩ := h.own
  rcases hh with ⟨rfl, h0⟩ | ⟨g, cap, cur, rfl, hB, hblk, hn, hm, hc, ht⟩
  · omega
  · obtain ⟨e, ho, _⟩ := hv i hi
    refine ⟨g, cap, ad i, ca i, rfl, ?_, ho⟩
    rw [cell_of_row _ _ _ _ _ _ hblk]
    have e1 : (cur.toList.take (b * 1))[i]? = vals[i]? := by rw [ht]
    rw [List.getElem?_take_of_lt (by omega), Array.getElem?_toList] at e1
    rw [e1, e]
end Go.Proofs.Ytgdgajgfehjjdaa
