/- What is proved here: what the laws' helpers on Sums return: toSums, markSums, heldSums. No conditions but the cells' number. -/
import Derived.Test.YtbhogcecjmlomaaFenHelp
import Derived.Test.YtbhogcecjmlomaaFenMake
namespace Go.Proofs.Ytbhogcecjmlomaa
open Go.RowKit

/-- What changed of what was there: the block of the slice with the address A alone. -/
structure OnlyUp (A : Option Addr) (w w' : World) : Prop where
  os : w'.os = w.os
  tape : w'.tape = w.tape
  output : w'.output = w.output
  size : w.heap.size ≤ w'.heap.size
  block : ∀ k, k < w.heap.size → (∀ ad, A = some ad → k ≠ ad.block) → w'.heap[k]? = w.heap[k]?
theorem OnlyUp.below {w w' : World} {A : Option Addr} {B : Nat} (h : OnlyUp A w w') (hB : B ≤ w.heap.size) (hl : ∀ ad, A = some ad → B ≤ ad.block) : Below B w w' :=
  ⟨h.os, h.tape, h.output, h.size, fun k hk => h.block k (by omega) (fun ad e => by have := hl ad e; omega)⟩
theorem OwnAt.onlyUp {w w' : World} {B n : Nat} {A A' : Option Addr} {xs : List Int} (h : OwnAt w B A n xs) (ho : OnlyUp A' w w') (hd : ∀ ad ad', A = some ad → A' = some ad' → ad.block ≠ ad'.block) : OwnAt w' B A n xs :=
  h.keep ho.size (fun ad e => ho.block _ (h.low ad e).2 (fun ad' e' => hd ad ad' e e'))

set_option maxRecDepth 100000 in
theorem markSums_any (A : Option Addr) (n c B : Nat) (xs : List Int) (k : Int) (w : World) (h : OwnAt w B A n xs) (hn : n ≤ 1048576) (hk0 : 0 ≤ k) (hk1 : k ≤ 4294967296) :
    Calls Try.prog 65 #[.agg #[.slice A n c], .int .i64 k] w fun e w' => e = .returned (.int .i64 (k + n)) ∧ OwnAt w' B A n (marks k n) ∧ OnlyUp A w w' := by
  have hr := Lib.hid h; clear h
  go_enter Try.func65, Try.ntmps65
  go_wp2_with fail
  refine (mark_any A n c B xs k _ (hr.out.below (box_below w _)) hn hk0 hk1).mono ?_
  rintro e w1 ⟨rfl, o1, only1⟩
  have o1' := Lib.hid o1
  have u1 := Lib.hid (show OnlyUp A w w1 from ⟨only1.os, only1.tape, only1.output, by rw [only1.size]; exact (box_below w _).size, fun k hk hd => (only1.block k hd).trans ((box_below w _).block k hk)⟩)
  clear o1 only1
  go_wp2_with fail
  go_ret
  exact ⟨rfl, o1'.out, u1.out⟩

set_option maxRecDepth 100000 in
theorem heldSums_any (A : Option Addr) (n c : Nat) (k : Int) (w : World) (h : IntsAt w w.heap.size A n (marks k n)) (hn : n ≤ 1048576) (hk0 : 0 ≤ k) (hk1 : k ≤ 4294967296) :
    Calls Try.prog 66 #[.agg #[.slice A n c], .int .i64 k] w fun e w' => e = .returned (.int .i64 (k + n)) ∧ Below w.heap.size w w' := by
  have hr := Lib.hid h; clear h
  have hp : ¬ (k + (n : Int)) < 0 := by omega
  go_enter Try.func66, Try.ntmps66
  go_wp2_with fail
  refine (held_any A n c _ k _ (hr.out.box _) hn hk0 hk1).mono ?_
  rintro e w1 ⟨rfl, rfl⟩
  go_wp2_with fail
  go_ret
  exact ⟨rfl, box_below w _⟩

theorem box3_below (w : World) (o p q : Obj) : Below w.heap.size w (((w.alloc o).alloc p).alloc q) := (box2_below w o p).alloc (by simp; omega) q
theorem box3_size (w : World) (o p q : Obj) : (((w.alloc o).alloc p).alloc q).heap.size = w.heap.size + 3 := by simp
theorem row_box3 (w : World) (o : Obj) (v u : Value) (t : TypeId) : (((w.alloc o).alloc (.cells #[v] t)).alloc (.cells #[u] t)).rowIs (w.heap.size + 1) t 1 (fun _ => v) ∧ (((w.alloc o).alloc (.cells #[v] t)).alloc (.cells #[u] t)).rowIs (w.heap.size + 2) t 1 (fun _ => u) := by
  have := row_box2 (w.alloc o) v u t
  rw [show (w.alloc o).heap.size = w.heap.size + 1 by simp] at this
  exact this

set_option maxRecDepth 100000 in
theorem toSums_any (A : Option Addr) (n c : Nat) (xs : List Int) (w : World) (h : IntsAt w w.heap.size A n xs) (hn : n ≤ 1048576) :
    Calls Try.prog 68 #[.agg #[.slice A n c]] w fun e w' => ∃ g, e = .returned (.agg #[.slice (some ⟨g, 0, none⟩) n n]) ∧ OwnAt w' w.heap.size (some ⟨g, 0, none⟩) n xs ∧ Below w.heap.size w w' := by
  have hl := Lib.hid h.1
  have hr := Lib.hid h; clear h
  go_enter Try.func68, Try.ntmps68
  go_wp2_with fail
  refine (toIntS_any A n c xs _ (hr.out.up (box3_below w _ _ _)) hn).mono ?_
  rintro e w1 ⟨rfl, r1, b1, s1⟩
  rw [box3_size] at r1 b1 s1 ⊢
  obtain ⟨rx1, rx2⟩ := row_box3 w (.cells #[.slice A n c] 72) (.slice none 0 0) (.slice none 0 0) 53
  have q1 := rowIs_below rx1 b1 (by omega)
  have q2 := rowIs_below rx2 b1 (by omega)
  have u1 := Lib.hid ((box3_below w (.cells #[.slice A n c] 72) (.cells #[.slice none 0 0] 53) (.cells #[.slice none 0 0] 53)).trans (b1.mono (by omega)))
  have hc2 := q2.cell (i := 0) (by omega)
  have hf2 := q2.frozen 0
  have hq1 := q1.of_block (Below.heap_setCell w1 ⟨w.heap.size + 2, 0, none⟩ (.slice (some ⟨w.heap.size + 3, 0, none⟩) n n) (w.heap.size + 1) (by show w.heap.size + 1 ≠ w.heap.size + 2; omega))
  have hc1 := hq1.cell (i := 0) (by omega)
  have hf1 := hq1.frozen 0
  have hc3 := (q2.set 0 (.slice (some ⟨w.heap.size + 3, 0, none⟩) n n)).cell (i := 0) (by omega)
  have hq1' := Lib.hid hq1
  have r1' := Lib.hid r1; have s1' := Lib.hid s1
  clear rx1 rx2 q1 q2 b1 hq1 r1 s1
  go_wp2_with fail
  refine bodyPost_ret (results_cell_row rfl _ _ (w.heap.size + 1) 53 #[.slice (some ⟨w.heap.size + 3, 0, none⟩) n n] (0, 0) _ rfl (row_one_set hq1'.out _) Try.underlying53 rfl (by kernel_rfl)) rfl ?_
  refine ⟨_, rfl, ?_, (u1.out.setCell (by show w.heap.size ≤ w.heap.size + 2; omega) _).setCell (by show w.heap.size ≤ w.heap.size + 1; omega) _⟩
  have o1 := (OwnAt.of_row s1'.out hl.out r1'.out).fewer (B' := w.heap.size) (by omega)
  have o2 := o1.keep (w' := w1.setCell ⟨w.heap.size + 2, 0, none⟩ (.slice (some ⟨w.heap.size + 3, 0, none⟩) n n)) (by simp) (fun ad e => by cases e; exact Below.heap_setCell w1 _ _ _ (by show w.heap.size + 3 ≠ w.heap.size + 2; omega))
  exact o2.keep (by simp) (fun ad e => by cases e; exact Below.heap_setCell _ _ _ _ (by show w.heap.size + 3 ≠ w.heap.size + 1; omega))
end Go.Proofs.Ytbhogcecjmlomaa
