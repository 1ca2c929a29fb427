/- What is proved here: what the laws' helpers on pools return: szPool, toPool, eqPool. No conditions but lengths. -/
import Derived.Test.YtlobjfipefibaaaVotePool
namespace Go.Proofs.Ytlobjfipefibaaa
open Go.RowKit

theorem pl_one {w : World} {g : Nat} {t : TypeId} {f : Nat → Value} (h : w.rowIs g t 1 f) : w.heap[g]? = some (.cells #[f 0] t (0, 0)) := by
  obtain ⟨cs, h1, h2, h3⟩ := h
  have e : cs = #[f 0] := by
    apply Array.ext (by simp [h2])
    intro i hi _
    have hi0 : i = 0 := by omega
    subst hi0
    have := h3 0 (by omega)
    rw [Array.getElem?_eq_getElem hi] at this
    simpa using this
  rw [← e]; exact h1
theorem pl_one_set {w : World} {g : Nat} {t : TypeId} {f : Nat → Value} (h : w.rowIs g t 1 f) (v : Value) : (w.setCell ⟨g, 0, none⟩ v).heap[g]? = some (.cells #[v] t (0, 0)) := by
  have := pl_one (h.set 0 v)
  simpa using this
theorem pl3_below (w : World) (o p q : Obj) : Below w.heap.size w (((w.alloc o).alloc p).alloc q) := (((Below.refl _ w).alloc (Nat.le_refl _) o).alloc (by simp) p).alloc (by simp; omega) q
theorem pl3_size (w : World) (o p q : Obj) : (((w.alloc o).alloc p).alloc q).heap.size = w.heap.size + 3 := by simp
theorem pl3_rows (w : World) (o : Obj) (v u : Value) (t : TypeId) : (((w.alloc o).alloc (.cells #[v] t)).alloc (.cells #[u] t)).rowIs (w.heap.size + 1) t 1 (fun _ => v) ∧ (((w.alloc o).alloc (.cells #[v] t)).alloc (.cells #[u] t)).rowIs (w.heap.size + 2) t 1 (fun _ => u) := by
  have e1 : (w.alloc o).heap.size = w.heap.size + 1 := by simp
  have e2 : ((w.alloc o).alloc (.cells #[v] t)).heap.size = w.heap.size + 2 := by simp
  have r1 := bx_row (w.alloc o) v t
  have r2 := bx_row ((w.alloc o).alloc (.cells #[v] t)) u t
  have r1' := rowIs_below r1 (bx_below _ (.cells #[u] t)) (by simp)
  rw [e1] at r1'
  rw [e2] at r2
  exact ⟨r1', r2⟩

set_option maxRecDepth 100000 in
theorem szPool_g (V : Option Addr) (n c : Nat) (L : Int) (w : World) (hn : n ≤ 9223372036854775807) (hL0 : 0 ≤ L) (hL1 : L ≤ 1048576) :
    Calls Try.prog 30 #[.agg #[.slice V n c], .int .i64 L] w fun e w' => e = .returned (.int .i64 (if (n : Int) ≤ L then L - n else -1)) ∧ Below w.heap.size w w' := by
  have hb := Lib.hid (bx_below w (.cells #[.slice V n c] 46))
  by_cases h : (n : Int) ≤ L
  · have hr := Lib.hid (show (if (n : Int) ≤ L then L - n else -1) = L - n from if_pos h)
    have h' : ¬ (L - (n : Int) < 0) := by omega
    have hc := Lib.hid (fun W => szVote_g V n c L W hn hL0 hL1)
    rw [if_pos h] at hc
    go_enter Try.func30, Try.ntmps30
    go_wp2_with fail
    refine (hc.out _).mono ?_
    rintro e w' ⟨rfl, rfl⟩
    go_wp2_with fail
    go_ret
    first | exact ⟨rfl, hb.out⟩ | exact ⟨ret_int hr.out.symm, hb.out⟩
  · have hr := Lib.hid (show (if (n : Int) ≤ L then L - n else -1) = -1 from if_neg h)
    have hc := Lib.hid (fun W => szVote_g V n c L W hn hL0 hL1)
    rw [if_neg h] at hc
    go_enter Try.func30, Try.ntmps30
    go_wp2_with fail
    refine (hc.out _).mono ?_
    rintro e w' ⟨rfl, rfl⟩
    go_wp2_with fail
    go_ret
    first | exact ⟨rfl, hb.out⟩ | exact ⟨ret_int hr.out.symm, hb.out⟩

set_option maxRecDepth 100000 in
theorem eqPool_b (V V' : Option Addr) (n n' c c' : Nat) (vs : List Vt) (w : World) (h : VotesAt w w.heap.size V n vs) (h' : VotesAt w w.heap.size V' n' vs) (hn : n ≤ 1048576) (hn' : n' ≤ 1048576) :
    Calls Try.prog 21 #[.agg #[.slice V n c], .agg #[.slice V' n' c']] w fun e w' => e = .returned (.bool true) ∧ Below w.heap.size w w' := by
  have hr := Lib.hid h; have hr' := Lib.hid h'; clear h h'
  have hb2 := Lib.hid (fun (o p : Obj) => ((bx_below w o).alloc (by simp) p : Below w.heap.size w ((w.alloc o).alloc p)))
  go_enter Try.func21, Try.ntmps21
  go_wp2_with fail
  refine (eqVoteS_b V V' n n' c c' vs _ (hr.out.up (hb2.out _ _)) (hr'.out.up (hb2.out _ _)) hn hn').mono ?_
  rintro e w1 ⟨rfl, b1⟩
  have u1 := Lib.hid ((hb2.out _ _).trans (b1.mono (hb2.out _ _).size))
  clear b1
  go_wp2_with fail
  go_ret
  exact ⟨rfl, u1.out⟩

set_option maxRecDepth 100000 in
set_option maxHeartbeats 800000 in
theorem toPool_g (V : Option Addr) (n c : Nat) (vs : List Vt) (w : World) (h : VotesAt w w.heap.size V n vs) (hn : n ≤ 1048576) :
    Calls Try.prog 32 #[.agg #[.slice V n c]] w fun e w' => ∃ g, e = .returned (.agg #[.slice (some ⟨g, 0, none⟩) n n]) ∧ w'.rowIs g 53 (n * 3) (cellsV vs) ∧ Below w.heap.size w w' ∧ w.heap.size ≤ g ∧ g < w'.heap.size := by
  have hr := Lib.hid h; clear h
  go_enter Try.func32, Try.ntmps32
  go_wp2_with fail
  refine (toVoteS_any V n c vs _ (hr.out.up (pl3_below w _ _ _)) hn).mono ?_
  rintro e w1 ⟨g, rfl, r1, b1, lo, hi⟩
  rw [pl3_size] at b1 lo
  obtain ⟨rx1, rx2⟩ := pl3_rows w (.cells #[.slice V n c] 46) (.slice none 0 0) (.slice none 0 0) 29
  have q1 := rowIs_below rx1 b1 (by omega)
  have q2 := rowIs_below rx2 b1 (by omega)
  have u1 := Lib.hid ((pl3_below w (.cells #[.slice V n c] 46) (.cells #[.slice none 0 0] 29) (.cells #[.slice none 0 0] 29)).trans (b1.mono (by omega)))
  have hc2 := q2.cell (i := 0) (by omega)
  have hf2 := q2.frozen 0
  have hq1 := q1.of_block (Below.heap_setCell w1 ⟨w.heap.size + 2, 0, none⟩ (.slice (some ⟨g, 0, none⟩) n n) (w.heap.size + 1) (by show w.heap.size + 1 ≠ w.heap.size + 2; omega))
  have hc1 := hq1.cell (i := 0) (by omega)
  have hf1 := hq1.frozen 0
  have hc3 := (q2.set 0 (.slice (some ⟨g, 0, none⟩) n n)).cell (i := 0) (by omega)
  have hq1' := Lib.hid hq1
  have r1' := Lib.hid r1; have lo' := Lib.hid lo; have hi' := Lib.hid hi
  clear rx1 rx2 q1 q2 b1 hq1 r1 lo hi
  go_wp2_with fail
  refine bodyPost_ret (results_cell_row rfl _ _ (w.heap.size + 1) 29 #[.slice (some ⟨g, 0, none⟩) n n] (0, 0) _ rfl (pl_one_set hq1'.out _) Try.underlying29 rfl (by kernel_rfl)) rfl ?_
  refine ⟨g, rfl, ?_, (u1.out.setCell (by show w.heap.size ≤ w.heap.size + 2; omega) _).setCell (by show w.heap.size ≤ w.heap.size + 1; omega) _, by have := lo'.out; omega, by simpa using hi'.out⟩
  exact (r1'.out.of_block (Below.heap_setCell w1 _ _ g (by show g ≠ w.heap.size + 2; have := lo'.out; omega))).of_block (Below.heap_setCell _ _ _ g (by show g ≠ w.heap.size + 1; have := lo'.out; omega))
theorem row_votes' {w : World} {g n : Nat} {vs : List Vt} (hl : vs.length = n) (h : w.rowIs g 53 (n * 3) (cellsV vs)) : VotesAt w w.heap.size (some ⟨g, 0, none⟩) n vs := VotesAt.of_row h.lt hl (Nat.le_refl _) h

/-- What changed of what was there: block g alone. -/
structure OnlyU (g : Nat) (w w' : World) : Prop where
  os : w'.os = w.os
  tape : w'.tape = w.tape
  output : w'.output = w.output
  size : w.heap.size ≤ w'.heap.size
  block : ∀ k, k < w.heap.size → k ≠ g → w'.heap[k]? = w.heap[k]?
theorem OnlyU.below {w w' : World} {g B : Nat} (h : OnlyU g w w') (hB : B ≤ w.heap.size) (hg : B ≤ g) : Below B w w' :=
  ⟨h.os, h.tape, h.output, h.size, fun k hk => h.block k (by omega) (by omega)⟩
theorem OwnAt.onlyU {w w' : World} {g B n : Nat} {A : Option Addr} {xs : List Int} (h : OwnAt w B A n xs) (ho : OnlyU g w w') (hd : ∀ ad, A = some ad → ad.block ≠ g) : OwnAt w' B A n xs :=
  h.keep ho.size (fun ad e => ho.block _ (h.low ad e).2 (hd ad e))
theorem Bx.stepTo {w w' w'' : World} {v : Value} {t : TypeId} (h : Bx w v t w') (hb : Below (w.heap.size + 1) w' w'') : Bx w v t w'' := ⟨h.up.trans hb⟩

set_option maxRecDepth 100000 in
theorem markPool_b (g n c : Nat) (vs : List Vt) (k : Int) (w : World) (hl : vs.length = n) (h : w.rowIs g 53 (n * 3) (cellsV vs)) (hn : n ≤ 1048576) (hk0 : 0 ≤ k) (hk1 : k ≤ 4294967296) :
    Calls Try.prog 28 #[.agg #[.slice (some ⟨g, 0, none⟩) n c], .int .i64 k] w fun e w' => e = .returned (.int .i64 (k + n * 3)) ∧ OnlyU g w w' := by
  have hb := Lib.hid (bx_below w (.cells #[.slice (some ⟨g, 0, none⟩) n c] 29))
  have hr := Lib.hid (OwnV.of_row (B := g) hl (Nat.le_refl _) (rowIs_below h (bx_below w (.cells #[.slice (some ⟨g, 0, none⟩) n c] 29)) h.lt))
  clear h
  go_enter Try.func28, Try.ntmps28
  go_wp2_with fail
  refine (markVotes_b (some ⟨g, 0, none⟩) n c g vs k _ hr.out hn hk0 hk1).mono ?_
  rintro e w1 ⟨rfl, _, only1⟩
  have u1 := Lib.hid (show OnlyU g w w1 from ⟨only1.os.trans hb.out.os, only1.tape.trans hb.out.tape, only1.output.trans hb.out.output, by rw [only1.size]; exact hb.out.size, fun k hk hd => (only1.block k (fun ad e => by cases e; exact hd)).trans (hb.out.block k hk)⟩)
  clear only1
  go_wp2_with fail
  go_ret
  exact ⟨rfl, u1.out⟩
end Go.Proofs.Ytlobjfipefibaaa

/- What is proved here: what the law's marking of a pool that a call has returned does, and its look at the marks. No conditions but lengths. -/
namespace Go.Proofs.Ytlobjfipefibaaa
open Go.RowKit

/-- What changed of what was there: the block of the slice with the address A alone. -/
structure OnlyO (A : Option Addr) (w w' : World) : Prop where
  os : w'.os = w.os
  tape : w'.tape = w.tape
  output : w'.output = w.output
  size : w.heap.size ≤ w'.heap.size
  block : ∀ k, k < w.heap.size → (∀ ad, A = some ad → k ≠ ad.block) → w'.heap[k]? = w.heap[k]?
theorem Only.o {A : Option Addr} {w w' : World} (h : Only A w w') : OnlyO A w w' := ⟨h.os, h.tape, h.output, by rw [h.size]; exact Nat.le_refl _, fun k _ hd => h.block k hd⟩
theorem OnlyU.o {g : Nat} {w w' : World} (h : OnlyU g w w') : OnlyO (some ⟨g, 0, none⟩) w w' := ⟨h.os, h.tape, h.output, h.size, fun k hk hd => h.block k hk (hd _ rfl)⟩
theorem OnlyO.below {A : Option Addr} {w w' : World} {B : Nat} (h : OnlyO A w w') (hB : B ≤ w.heap.size) (hg : ∀ ad, A = some ad → B ≤ ad.block) : Below B w w' :=
  ⟨h.os, h.tape, h.output, h.size, fun k hk => h.block k (by omega) (fun ad e => by have := hg ad e; omega)⟩
theorem rowIs_o {w w' : World} {b : Nat} {t : TypeId} {n : Nat} {f : Nat → Value} {A : Option Addr} (h : w.rowIs b t n f) (ho : OnlyO A w w') (hd : ∀ ad, A = some ad → b ≠ ad.block) : w'.rowIs b t n f := h.of_block (ho.block b h.lt hd)
theorem OwnAt.o {w w' : World} {B n : Nat} {A A' : Option Addr} {xs : List Int} (h : OwnAt w B A n xs) (ho : OnlyO A' w w') (hd : ∀ ad ad', A = some ad → A' = some ad' → ad.block ≠ ad'.block) : OwnAt w' B A n xs :=
  h.keep ho.size (fun ad e => ho.block _ (h.low ad e).2 (fun ad' e' => hd ad ad' e e'))
theorem OwnV.o {w w' : World} {B n : Nat} {A A' : Option Addr} {vs : List Vt} (h : OwnV w B A n vs) (ho : OnlyO A' w w') (hd : ∀ ad ad', A = some ad → A' = some ad' → ad.block ≠ ad'.block) : OwnV w' B A n vs :=
  h.keep ho.size (fun ad e => ho.block _ (h.low ad e).2 (fun ad' e' => hd ad ad' e e'))
theorem row_votesB {w : World} {g n : Nat} {vs : List Vt} (hl : vs.length = n) (h : w.rowIs g 53 (n * 3) (cellsV vs)) : VotesAt w w.heap.size (some ⟨g, 0, none⟩) n vs := VotesAt.of_row h.lt hl (Nat.le_refl _) h
theorem markVotesG_b (g n c : Nat) (vs : List Vt) (k : Int) (w : World) (hl : vs.length = n) (h : w.rowIs g 53 (n * 3) (cellsV vs)) (hn : n ≤ 1048576) (hk0 : 0 ≤ k) (hk1 : k ≤ 4294967296) :
    Calls Try.prog 27 #[.slice (some ⟨g, 0, none⟩) n c, .int .i64 k] w fun e w' => e = .returned (.int .i64 (k + n * 3)) ∧ Only (some ⟨g, 0, none⟩) w w' :=
  (markVotes_b _ n c g vs k w (OwnV.of_row hl (Nat.le_refl _) h) hn hk0 hk1).mono fun _ _ ⟨he, _, ho⟩ => ⟨he, ho⟩
theorem toVotes_g (A : Option Addr) (n c : Nat) (vs : List Vt) (w : World) (h : VotesAt w w.heap.size A n vs) (hn : n ≤ 1048576) :
    Calls Try.prog 19 #[.slice A n c] w fun e w' => ∃ g, e = .returned (.slice (some ⟨g, 0, none⟩) n n) ∧ w'.rowIs g 53 (n * 3) (cellsV vs) ∧ Below w.heap.size w w' ∧ w.heap.size ≤ g ∧ g < w'.heap.size :=
  toVoteS_any A n c vs w h hn

set_option maxRecDepth 100000 in
theorem markPoolR_b (A : Option Addr) (n c B : Nat) (vs : List Vt) (k : Int) (w : World) (h : OwnV w B A n vs) (hn : n ≤ 1048576) (hk0 : 0 ≤ k) (hk1 : k ≤ 4294967296) :
    Calls Try.prog 28 #[.agg #[.slice A n c], .int .i64 k] w fun e w' => e = .returned (.int .i64 (k + n * 3)) ∧ OwnV w' B A n (vmarks k n) ∧ OnlyO A w w' := by
  have hb := Lib.hid (bx_below w (.cells #[.slice A n c] 29))
  have hr := Lib.hid (h.below (bx_below w (.cells #[.slice A n c] 29)))
  clear h
  go_enter Try.func28, Try.ntmps28
  go_wp2_with fail
  refine (markVotes_b A n c B vs k _ hr.out hn hk0 hk1).mono ?_
  rintro e w1 ⟨rfl, o1, only1⟩
  have u1 := Lib.hid (show OnlyO A w w1 from ⟨only1.os.trans hb.out.os, only1.tape.trans hb.out.tape, only1.output.trans hb.out.output, by rw [only1.size]; exact hb.out.size, fun k hk hd => (only1.block k hd).trans (hb.out.block k hk)⟩)
  have o1' := Lib.hid o1
  clear only1 o1
  go_wp2_with fail
  go_ret
  exact ⟨rfl, o1'.out, u1.out⟩
set_option maxRecDepth 100000 in
theorem heldPool_b (A : Option Addr) (n c : Nat) (k : Int) (w : World) (h : VotesAt w w.heap.size A n (vmarks k n)) (hn : n ≤ 1048576) (hk0 : 0 ≤ k) (hk1 : k ≤ 4294967296) :
    Calls Try.prog 29 #[.agg #[.slice A n c], .int .i64 k] w fun e w' => e = .returned (.int .i64 (k + n * 3)) ∧ Below w.heap.size w w' := by
  have hb := Lib.hid (bx_below w (.cells #[.slice A n c] 29))
  have hr := Lib.hid (h.up hb.out)
  clear h
  go_enter Try.func29, Try.ntmps29
  go_wp2_with fail
  refine (heldVotes_b A n c k _ hr.out hn hk0 hk1).mono ?_
  rintro e w1 ⟨rfl, b1⟩
  have u1 := Lib.hid (hb.out.trans (b1.mono hb.out.size))
  clear b1
  go_wp2_with fail
  go_ret
  exact ⟨rfl, u1.out⟩
end Go.Proofs.Ytlobjfipefibaaa
