/- What is proved here: how a slice of slices of integers reads as a list of lists, and what the law's comparison, marking and look at the marks do to it. No conditions. -/
import Derived.Test.YthiegfbdmmpababOwn
namespace Go.Proofs.Ythiegfbdmmpabab
open Go.RowKit

def rowG (rows : List (List Int)) (i : Nat) : List Int := rows[i]?.getD []
/-- The slice with the address A and n elements holds the rows, in memory below B. -/
structure RowsAt (w : World) (B : Nat) (A : Option Addr) (n : Nat) (rows : List (List Int)) : Prop where
  len : rows.length = n
  row : ∀ i, i < n → ∃ b off Ai ci, A = some ⟨b, off, none⟩ ∧ b < B ∧ w.cell? ⟨b, off + i, none⟩ = some (.slice Ai (rowG rows i).length ci) ∧ IntsAt w B Ai (rowG rows i).length (rowG rows i)
theorem RowsAt.below {w w' : World} {B n : Nat} {A : Option Addr} {rows : List (List Int)} (h : RowsAt w B A n rows) (hb : Below B w w') : RowsAt w' B A n rows :=
  ⟨h.len, fun i hi => by
    obtain ⟨b, off, Ai, ci, e, hlt, hc, hr⟩ := h.row i hi
    exact ⟨b, off, Ai, ci, e, hlt, (hb.cell (p := ⟨b, off + i, none⟩) hlt).trans hc, hr.below hb⟩⟩
theorem RowsAt.more {w : World} {B B' n : Nat} {A : Option Addr} {rows : List (List Int)} (h : RowsAt w B A n rows) (hB : B ≤ B') : RowsAt w B' A n rows :=
  ⟨h.len, fun i hi => by
    obtain ⟨b, off, Ai, ci, e, hlt, hc, hr⟩ := h.row i hi
    exact ⟨b, off, Ai, ci, e, by omega, hc, hr.more hB⟩⟩
def short (rows : List (List Int)) : Prop := ∀ i, (rowG rows i).length ≤ 100

/-- How many numbers the first i rows hold. -/
def tot (rows : List (List Int)) : Nat → Nat
  | 0 => 0
  | i + 1 => tot rows i + (rowG rows i).length
theorem tot_le {rows : List (List Int)} (hs : short rows) : ∀ i, tot rows i ≤ 100 * i
  | 0 => Nat.le_refl _
  | i + 1 => by have := tot_le hs i; have := hs i; simp only [tot]; omega
/-- The rows with the first i of them marked, from k0 on. -/
def markT (rows : List (List Int)) (i j : Nat) : List Int := if j < i then marks (1 + tot rows j) (rowG rows j).length else rowG rows j
theorem markT_len (rows : List (List Int)) (i j : Nat) : (markT rows i j).length = (rowG rows j).length := by
  unfold markT; split
  · exact marks_len _ _
  · rfl

/-- A slice of n slices that a call has made: each row in a block of its own, all of them from block B on. -/
structure RowsOwn (w : World) (B : Nat) (A : Option Addr) (n : Nat) (r : Nat → List Int) : Prop where
  own : 0 < n → ∃ g m f, A = some ⟨g, 0, none⟩ ∧ B ≤ g ∧ n ≤ m ∧ w.rowIs g 24 m f ∧ ∃ (ad : Nat → Option Addr) (ca : Nat → Nat),
    (∀ i, i < n → f i = .slice (ad i) (r i).length (ca i) ∧ OwnAt w B (ad i) (r i).length (r i) ∧ ∀ x, ad i = some x → x.block ≠ g) ∧
    ∀ i j, i < n → j < n → i ≠ j → ∀ x y, ad i = some x → ad j = some y → x.block ≠ y.block
theorem RowsOwn.below {w w' : World} {B n : Nat} {A : Option Addr} {r : Nat → List Int} (h : RowsOwn w B A n r) (hb : Below w.heap.size w w') : RowsOwn w' B A n r :=
  ⟨fun hn => by
    obtain ⟨g, m, f, e, hB, hm, hr, ad, ca, h1, h2⟩ := h.own hn
    exact ⟨g, m, f, e, hB, hm, rowIs_below hr hb hr.lt, ad, ca, fun i hi => ⟨(h1 i hi).1, (h1 i hi).2.1.below hb, (h1 i hi).2.2⟩, h2⟩⟩
theorem RowsOwn.drewN {w : World} {B n : Nat} {A : Option Addr} {r : Nat → List Int} (h : RowsOwn w B A n r) (k : Nat) : RowsOwn (w.drewN k) B A n r :=
  h.below (below_drewN (Below.refl _ _) k)
theorem RowsOwn.at {w : World} {B n : Nat} {A : Option Addr} {r : Nat → List Int} {rows : List (List Int)} (h : RowsOwn w B A n r) (hl : rows.length = n) (hr : ∀ i, i < n → rowG rows i = r i) : RowsAt w w.heap.size A n rows :=
  ⟨hl, fun i hi => by
    obtain ⟨g, m, f, e, hB, hm, hrow, ad, ca, h1, h2⟩ := h.own (by omega)
    obtain ⟨a1, a2, _⟩ := h1 i hi
    refine ⟨g, 0, ad i, ca i, e, hrow.lt, ?_, ?_⟩
    · rw [Nat.zero_add, hrow.cell (by omega), a1, hr i hi]
    · rw [hr i hi]; exact a2.ints⟩
end Go.Proofs.Ythiegfbdmmpabab

/- What is proved here: what the law's marking of a slice of slices, and its look at the marks, do to it. No conditions. -/
namespace Go.Proofs.Ythiegfbdmmpabab
open Go.RowKit

theorem markT_done {rows : List (List Int)} {k : Nat} : markT rows (k + 1) k = marks (1 + tot rows k) (rowG rows k).length := by
  unfold markT; rw [if_pos (by omega)]
theorem markT_other {rows : List (List Int)} {k j : Nat} (h : j ≠ k) : markT rows (k + 1) j = markT rows k j := by
  unfold markT
  by_cases e : j < k
  · rw [if_pos e, if_pos (by omega)]
  · rw [if_neg e, if_neg (by omega)]

def MarksPost (w : World) (B : Nat) (A : Option Addr) (n : Nat) (rows : List (List Int)) (e : Ending) (w' : World) : Prop :=
  e = .returned (.int .i64 (1 + (tot rows n : Nat))) ∧ RowsOwn w' B A n (markT rows n) ∧ Below B w w'

end Go.Proofs.Ythiegfbdmmpabab
