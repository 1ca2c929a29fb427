/- What is proved here: what the law's marking of a pool that a call has returned does, and its look at the marks. No conditions but lengths. -/
import Derived.Test.YtgdgajgfehjjdaaLawPool
namespace Go.Proofs.Ytgdgajgfehjjdaa
open Go.RowKit

/-- What changed of what was there: the block of the slice with the address A alone. -/
structure OnlyO (A : Option Addr) (w w' : World) : Prop where
  os : w'.os = w.os
  tape : w'.tape = w.tape
  output : w'.output = w.output
  size : w.heap.size ≤ w'.heap.size
  block : ∀ k, k < w.heap.size → (∀ ad, A = some ad → k ≠ ad.block) → w'.heap[k]? = w.heap[k]?
theorem Only.o {A : Option Addr} {w w' : World} (h : Only A w w') : OnlyO A w w' := ⟨h.os, h.tape, h.output, by rw [h.size]; exact Nat.le_refl _, fun k _ hd => h.block k hd⟩
theorem OnlyU.o {g : Nat} {w w' : World} (h : OnlyU g w w') : OnlyO (some ⟨g, 0, none⟩) w w' := ⟨h.os, h.tape, h.output, h.size, fun k hk hd => h.block k hk (hd _ rfl)⟩
theorem OnlyO.below {A : Option Addr} {w w' : World} {B : Nat} (h : OnlyO A w w') (hB : B ≤ w.heap.size) (hg : ∀ ad, A = some ad → B ≤ ad.block) : Below B w w' :=
  ⟨h.os, h.tape, h.output, h.size, fun k hk => h.block k (by omega) (fun ad e => by have := hg ad e; omega)⟩
theorem rowIs_o {w w' : World} {b : Nat} {t : TypeId} {n : Nat} {f : Nat → Value} {A : Option Addr} (h : w.rowIs b t n f) (ho : OnlyO A w w') (hd : ∀ ad, A = some ad → b ≠ ad.block) : w'.rowIs b t n f := h.of_block (ho.block b h.lt hd)
theorem OwnAt.o {w w' : World} {B n : Nat} {A A' : Option Addr} {xs : List Int} (h : OwnAt w B A n xs) (ho : OnlyO A' w w') (hd : ∀ ad ad', A = some ad → A' = some ad' → ad.block ≠ ad'.block) : OwnAt w' B A n xs :=
  h.keep ho.size (fun ad e => ho.block _ (h.low ad e).2 (fun ad' e' => hd ad ad' e e'))
theorem OwnV.o {w w' : World} {B n : Nat} {A A' : Option Addr} {vs : List Vt} (h : OwnV w B A n vs) (ho : OnlyO A' w w') (hd : ∀ ad ad', A = some ad → A' = some ad' → ad.block ≠ ad'.block) : OwnV w' B A n vs :=
  h.keep ho.size (fun ad e => ho.block _ (h.low ad e).2 (fun ad' e' => hd ad ad' e e'))
theorem row_votesB {w : World} {g n : Nat} {vs : List Vt} (hl : vs.length = n) (h : w.rowIs g 60 (n * 3) (cellsV vs)) : VotesAt w w.heap.size (some ⟨g, 0, none⟩) n vs := VotesAt.of_row h.lt hl (Nat.le_refl _) h
theorem markVotesG_b (g n c : Nat) (vs : List Vt) (k : Int) (w : World) (hl : vs.length = n) (h : w.rowIs g 60 (n * 3) (cellsV vs)) (hn : n ≤ 1048576) (hk0 : 0 ≤ k) (hk1 : k ≤ 4294967296) :
    Calls Try.prog 28 #[.slice (some ⟨g, 0, none⟩) n c, .int .i64 k] w fun e w' => e = .returned (.int .i64 (k + n * 3)) ∧ Only (some ⟨g, 0, none⟩) w w' :=
  (markVotes_b _ n c g vs k w (OwnV.of_row hl (Nat.le_refl _) h) hn hk0 hk1).mono fun _ _ ⟨he, _, ho⟩ => ⟨he, ho⟩
theorem toVotes_g (A : Option Addr) (n c : Nat) (vs : List Vt) (w : World) (h : VotesAt w w.heap.size A n vs) (hn : n ≤ 1048576) :
    Calls Try.prog 37 #[.slice A n c] w fun e w' => ∃ g, e = .returned (.slice (some ⟨g, 0, none⟩) n n) ∧ w'.rowIs g 60 (n * 3) (cellsV vs) ∧ Below w.heap.size w w' ∧ w.heap.size ≤ g ∧ g < w'.heap.size :=
  toVoteS_any A n c vs w h hn

set_option maxRecDepth 100000 in
theorem markPoolR_b (A : Option Addr) (n c B : Nat) (vs : List Vt) (k : Int) (w : World) (h : OwnV w B A n vs) (hn : n ≤ 1048576) (hk0 : 0 ≤ k) (hk1 : k ≤ 4294967296) :
    Calls Try.prog 27 #[.agg #[.slice A n c], .int .i64 k] w fun e w' => e = .returned (.int .i64 (k + n * 3)) ∧ OwnV w' B A n (vmarks k n) ∧ OnlyO A w w' := by
  have hb := Lib.hid (bx_below w (.cells #[.slice A n c] 36))
  have hr := Lib.hid (h.below (bx_below w (.cells #[.slice A n c] 36)))
  clear h
  go_enter Try.func27, Try.ntmps27
  go_wp2_with fail
  refine (markVotes_b A n c B vs k _ hr.out hn hk0 hk1).mono ?_
  rintro e w1 ⟨rfl, o1, only1⟩
  have u1 := Lib.hid (show OnlyO A w w1 from ⟨only1.os.trans hb.out.os, only1.tape.trans hb.out.tape, only1.output.trans hb.out.output, by rw [only1.size]; exact hb.out.size, fun k hk hd => (only1.block k hd).trans (hb.out.block k hk)⟩)
  have o1' := Lib.hid o1
  clear only1 o1
  go_wp2_with fail
  go_ret
  exact ⟨rfl, o1'.out, u1.out⟩
set_option maxRecDepth 100000 in
theorem heldPool_b (A : Option Addr) (n c : Nat) (k : Int) (w : World) (h : VotesAt w w.heap.size A n (vmarks k n)) (hn : n ≤ 1048576) (hk0 : 0 ≤ k) (hk1 : k ≤ 4294967296) :
    Calls Try.prog 39 #[.agg #[.slice A n c], .int .i64 k] w fun e w' => e = .returned (.int .i64 (k + n * 3)) ∧ Below w.heap.size w w' := by
  have hb := Lib.hid (bx_below w (.cells #[.slice A n c] 36))
  have hr := Lib.hid (h.up hb.out)
  clear h
  go_enter Try.func39, Try.ntmps39
  go_wp2_with fail
  refine (heldVotes_b A n c k _ hr.out hn hk0 hk1).mono ?_
  rintro e w1 ⟨rfl, b1⟩
  have u1 := Lib.hid (hb.out.trans (b1.mono hb.out.size))
  clear b1
  go_wp2_with fail
  go_ret
  exact ⟨rfl, u1.out⟩
end Go.Proofs.Ytgdgajgfehjjdaa
