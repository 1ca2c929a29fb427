/- What is proved here: what the laws' helpers on pools return: szPool, toPool, eqPool. No conditions but lengths. -/
import Derived.Test.YthiegfbdmmpabaaVotePool
namespace Go.Proofs.Ythiegfbdmmpabaa
open Go.RowKit

theorem pl_one {w : World} {g : Nat} {t : TypeId} {f : Nat → Value} (h : w.rowIs g t 1 f) : w.heap[g]? = some (.cells #[f 0] t (0, 0)) := by
  obtain ⟨cs, h1, h2, h3⟩ := h
  have e : cs = #[f 0] := by
    apply Array.ext (by simp [h2])
    intro i hi _
    have hi0 : i = 0 := by omega
    subst hi0
    have := h3 0 (by omega)
    rw [Array.getElem?_eq_getElem hi] at this
    simpa using this
  rw [← e]; exact h1
theorem pl_one_set {w : World} {g : Nat} {t : TypeId} {f : Nat → Value} (h : w.rowIs g t 1 f) (v : Value) : (w.setCell ⟨g, 0, none⟩ v).heap[g]? = some (.cells #[v] t (0, 0)) := by
  have := pl_one (h.set 0 v)
  simpa using this
theorem pl3_below (w : World) (o p q : Obj) : Below w.heap.size w (((w.alloc o).alloc p).alloc q) := (((Below.refl _ w).alloc (Nat.le_refl _) o).alloc (by simp) p).alloc (by simp; omega) q
theorem pl3_size (w : World) (o p q : Obj) : (((w.alloc o).alloc p).alloc q).heap.size = w.heap.size + 3 := by simp
theorem pl3_rows (w : World) (o : Obj) (v u : Value) (t : TypeId) : (((w.alloc o).alloc (.cells #[v] t)).alloc (.cells #[u] t)).rowIs (w.heap.size + 1) t 1 (fun _ => v) ∧ (((w.alloc o).alloc (.cells #[v] t)).alloc (.cells #[u] t)).rowIs (w.heap.size + 2) t 1 (fun _ => u) := by
  have e1 : (w.alloc o).heap.size = w.heap.size + 1 := by simp
  have e2 : ((w.alloc o).alloc (.cells #[v] t)).heap.size = w.heap.size + 2 := by simp
  have r1 := bx_row (w.alloc o) v t
  have r2 := bx_row ((w.alloc o).alloc (.cells #[v] t)) u t
  have r1' := rowIs_below r1 (bx_below _ (.cells #[u] t)) (by simp)
  rw [e1] at r1'
  rw [e2] at r2
  exact ⟨r1', r2⟩

theorem row_votes' {w : World} {g n : Nat} {vs : List Vt} (hl : vs.length = n) (h : w.rowIs g 63 (n * 3) (cellsV vs)) : VotesAt w w.heap.size (some ⟨g, 0, none⟩) n vs := VotesAt.of_row h.lt hl (Nat.le_refl _) h

/-- What changed of what was there: block g alone. -/
structure OnlyU (g : Nat) (w w' : World) : Prop where
  os : w'.os = w.os
  tape : w'.tape = w.tape
  output : w'.output = w.output
  size : w.heap.size ≤ w'.heap.size
  block : ∀ k, k < w.heap.size → k ≠ g → w'.heap[k]? = w.heap[k]?
theorem OnlyU.below {w w' : World} {g B : Nat} (h : OnlyU g w w') (hB : B ≤ w.heap.size) (hg : B ≤ g) : Below B w w' :=
  ⟨h.os, h.tape, h.output, h.size, fun k hk => h.block k (by omega) (by omega)⟩
theorem OwnAt.onlyU {w w' : World} {g B n : Nat} {A : Option Addr} {xs : List Int} (h : OwnAt w B A n xs) (ho : OnlyU g w w') (hd : ∀ ad, A = some ad → ad.block ≠ g) : OwnAt w' B A n xs :=
  h.keep ho.size (fun ad e => ho.block _ (h.low ad e).2 (hd ad e))
theorem Bx.stepTo {w w' w'' : World} {v : Value} {t : TypeId} (h : Bx w v t w') (hb : Below (w.heap.size + 1) w' w'') : Bx w v t w'' := ⟨h.up.trans hb⟩

end Go.Proofs.Ythiegfbdmmpabaa

/- What is proved here: what the law's marking of a pool that a call has returned does, and its look at the marks. No conditions but lengths. -/
namespace Go.Proofs.Ythiegfbdmmpabaa
open Go.RowKit

/-- What changed of what was there: the block of the slice with the address A alone. -/
structure OnlyO (A : Option Addr) (w w' : World) : Prop where
  os : w'.os = w.os
  tape : w'.tape = w.tape
  output : w'.output = w.output
  size : w.heap.size ≤ w'.heap.size
  block : ∀ k, k < w.heap.size → (∀ ad, A = some ad → k ≠ ad.block) → w'.heap[k]? = w.heap[k]?
theorem Only.o {A : Option Addr} {w w' : World} (h : Only A w w') : OnlyO A w w' := ⟨h.os, h.tape, h.output, by rw [h.size]; exact Nat.le_refl _, fun k _ hd => h.block k hd⟩
theorem OnlyU.o {g : Nat} {w w' : World} (h : OnlyU g w w') : OnlyO (some ⟨g, 0, none⟩) w w' := ⟨h.os, h.tape, h.output, h.size, fun k hk hd => h.block k hk (hd _ rfl)⟩
theorem OnlyO.below {A : Option Addr} {w w' : World} {B : Nat} (h : OnlyO A w w') (hB : B ≤ w.heap.size) (hg : ∀ ad, A = some ad → B ≤ ad.block) : Below B w w' :=
  ⟨h.os, h.tape, h.output, h.size, fun k hk => h.block k (by omega) (fun ad e => by have := hg ad e; omega)⟩
theorem rowIs_o {w w' : World} {b : Nat} {t : TypeId} {n : Nat} {f : Nat → Value} {A : Option Addr} (h : w.rowIs b t n f) (ho : OnlyO A w w') (hd : ∀ ad, A = some ad → b ≠ ad.block) : w'.rowIs b t n f := h.of_block (ho.block b h.lt hd)
theorem OwnAt.o {w w' : World} {B n : Nat} {A A' : Option Addr} {xs : List Int} (h : OwnAt w B A n xs) (ho : OnlyO A' w w') (hd : ∀ ad ad', A = some ad → A' = some ad' → ad.block ≠ ad'.block) : OwnAt w' B A n xs :=
  h.keep ho.size (fun ad e => ho.block _ (h.low ad e).2 (fun ad' e' => hd ad ad' e e'))
theorem OwnV.o {w w' : World} {B n : Nat} {A A' : Option Addr} {vs : List Vt} (h : OwnV w B A n vs) (ho : OnlyO A' w w') (hd : ∀ ad ad', A = some ad → A' = some ad' → ad.block ≠ ad'.block) : OwnV w' B A n vs :=
  h.keep ho.size (fun ad e => ho.block _ (h.low ad e).2 (fun ad' e' => hd ad ad' e e'))
theorem row_votesB {w : World} {g n : Nat} {vs : List Vt} (hl : vs.length = n) (h : w.rowIs g 63 (n * 3) (cellsV vs)) : VotesAt w w.heap.size (some ⟨g, 0, none⟩) n vs := VotesAt.of_row h.lt hl (Nat.le_refl _) h
end Go.Proofs.Ythiegfbdmmpabaa
