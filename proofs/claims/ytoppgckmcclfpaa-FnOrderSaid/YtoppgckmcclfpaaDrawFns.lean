/- What is proved here: what the model's draws of whole arguments return, and the law's helpers on numbers, at every slice of bytes. No conditions beside the slice's length. -/
import Derived.Test.YtoppgckmcclfpaaStakes
namespace Go.Proofs.Ytoppgckmcclfpaa
open Go.RowKit

def BytesIn (w : World) (A : Option Addr) (n : Nat) : Prop := BytesAt w w.heap.size w.heap.size A n
theorem BytesIn.below {w w' : World} {A : Option Addr} {n : Nat} (h : BytesIn w A n) (hb : Below w.heap.size w w') : BytesIn w' A n := fun k hk => by
  obtain ⟨b, off, x, e, _, hlt, h0, h1, hc⟩ := h k hk
  exact ⟨b, off, x, e, by have := hb.size; omega, by have := hb.size; omega, h0, h1, (hb.cell (p := ⟨b, off + k, none⟩) hlt).trans hc⟩
theorem BytesIn.drewN {w : World} {A : Option Addr} {n : Nat} (h : BytesIn w A n) (k : Nat) : BytesIn (w.drewN k) A n := h
theorem cur_new {w : World} {A : Option Addr} {n c : Nat} (h : BytesIn w A n) (hn : n ≤ 1048576) :
    CurOk (w.alloc (.cells #[.slice A n c, .int .i64 0, .int .u64 0] 85)) w.heap.size (w.heap.size + 1) 0 := by
  refine ⟨Nat.lt_succ_self _, A, n, c, 0, 0, heap_alloc_new w _, Nat.le_refl _, hn, Int.le_refl _, by decide, fun k hk => ?_⟩
  obtain ⟨b, off, x, e, _, hlt, h0, h1, hc⟩ := h k hk
  exact ⟨b, off, x, e, by omega, by omega, h0, h1, (World.cell?_alloc_lt w _ ⟨b, off + k, none⟩ hlt).trans hc⟩
theorem new_below (w : World) (o : Obj) : Below w.heap.size w (w.alloc o) := (Below.refl _ _).alloc (Nat.le_refl _) _
theorem grew_new {w w' : World} {o : Obj} (h : Grew w.heap.size (w.alloc o).heap.size (w.alloc o) w') : Below w.heap.size w w' :=
  (new_below w o).trans ((h.mono (by simp)).below (Nat.le_refl _))
theorem OwnAt.from {w : World} {B B' n : Nat} {A : Option Addr} {xs : List Int} (h : OwnAt w B A n xs) (hB : B' ≤ B) : OwnAt w B' A n xs := h.fewer hB
theorem OwnAt.grew {w w' : World} {B g n : Nat} {A : Option Addr} {xs : List Int} (h : OwnAt w B A n xs) (hg : Grew g w.heap.size w w') (hgB : g < B) : OwnAt w' B A n xs :=
  h.keep hg.size (fun ad e => hg.block _ (h.low ad e).2 (by have := (h.low ad e).1; omega))

def DrawSl (w : World) (K : Nat) (e : Ending) (w' : World) : Prop :=
  ∃ A n c xs, e = .returned (.slice A n c) ∧ OwnAt w' w.heap.size A n xs ∧ n ≤ K ∧ Below w.heap.size w w'
def DrawTwo (w : World) (e : Ending) (w' : World) : Prop :=
  ∃ A n c xs A' n' c' ys, e = .returned (.tuple #[.slice A n c, .slice A' n' c']) ∧ OwnAt w' w.heap.size A n xs ∧ OwnAt w' w.heap.size A' n' ys ∧ n ≤ 12 ∧ n' ≤ 12 ∧ Below w.heap.size w w'

theorem own_front {w : World} {B n : Nat} {A : Option Addr} {xs : List Int} (h : OwnAt w B A n xs) {k : Nat} (hk : k ≤ n) : OwnAt w B A k (xs.take k) :=
  ⟨by rw [List.length_take, h.len]; omega, fun h0 => by
    obtain ⟨g, m, f, e, hm, hr, hf⟩ := h.own (by omega)
    exact ⟨g, m, f, e, by omega, hr, fun i hi => by rw [hf i (by omega), List.getElem?_take_of_lt hi]⟩, h.low⟩

end Go.Proofs.Ytoppgckmcclfpaa
