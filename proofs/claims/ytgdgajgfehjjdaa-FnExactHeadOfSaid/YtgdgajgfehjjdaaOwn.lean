/- What is proved here: plain facts on slices that a call has made itself, and what the law's marking and its look at the marks do to them. No conditions. -/
import Derived.Test.YtgdgajgfehjjdaaWalksF
import Derived.OwnWalk
namespace Go.Proofs.Ytgdgajgfehjjdaa
open Go.RowKit

/-- The slice with the address A and n elements holds xs; where it is not nil it begins a block of its own, from block B on. -/
structure OwnAt (w : World) (B : Nat) (A : Option Addr) (n : Nat) (xs : List Int) : Prop where
  len : xs.length = n
  own : 0 < n → ∃ g m f, A = some ⟨g, 0, none⟩ ∧ n ≤ m ∧ w.rowIs g 3 m f ∧ ∀ i, i < n → f i = .int .i64 (xs[i]?.getD 0)
  low : ∀ ad, A = some ad → B ≤ ad.block ∧ ad.block < w.heap.size

section
variable {w w' : World} {B B' n : Nat} {A : Option Addr} {xs : List Int}
theorem OwnAt.ints (h : OwnAt w B A n xs) : IntsAt w w.heap.size A n xs :=
  ⟨h.len, fun k hk => by
    obtain ⟨g, m, f, e, hm, hr, hf⟩ := h.own (by omega)
    exact ⟨g, 0, e, hr.lt, by rw [Nat.zero_add, hr.cell (by omega), hf k hk]⟩⟩
theorem OwnAt.fewer (h : OwnAt w B A n xs) (hB : B' ≤ B) : OwnAt w B' A n xs :=
  ⟨h.len, h.own, fun ad e => ⟨Nat.le_trans hB (h.low ad e).1, (h.low ad e).2⟩⟩
/-- Its block is as it was. -/
theorem OwnAt.keep (h : OwnAt w B A n xs) (hs : w.heap.size ≤ w'.heap.size) (hk : ∀ ad, A = some ad → w'.heap[ad.block]? = w.heap[ad.block]?) : OwnAt w' B A n xs :=
  ⟨h.len, fun hn => by
    obtain ⟨g, m, f, e, hm, hr, hf⟩ := h.own hn
    exact ⟨g, m, f, e, hm, hr.of_block (hk _ e), hf⟩, fun ad e => ⟨(h.low ad e).1, Nat.lt_of_lt_of_le (h.low ad e).2 hs⟩⟩
theorem OwnAt.below (h : OwnAt w B A n xs) (hb : Below w.heap.size w w') : OwnAt w' B A n xs :=
  h.keep hb.size (fun ad e => hb.block _ (h.low ad e).2)
theorem OwnAt.drewN (h : OwnAt w B A n xs) (k : Nat) : OwnAt (w.drewN k) B A n xs := ⟨h.len, h.own, h.low⟩
theorem OwnAt.of_row {b : Nat} (hb : w.heap.size > b) (hl : xs.length = n) (h : w.rowIs b 3 n (fun i => .int .i64 (xs[i]?.getD 0))) : OwnAt w b (some ⟨b, 0, none⟩) n xs :=
  ⟨hl, fun _ => ⟨b, n, _, rfl, Nat.le_refl _, h, fun _ _ => rfl⟩, fun ad e => by cases e; exact ⟨Nat.le_refl _, hb⟩⟩
theorem OwnAt.of_owns {v : Value} (h : w.ownsRow B 3 1 v n (xs.map (Value.int .i64))) : ∃ A c, v = .slice A n c ∧ OwnAt w B A n xs := by
  obtain ⟨hl, hh⟩ := h
  have hl' : xs.length = n := by simpa using hl
  rcases hh with ⟨rfl, rfl⟩ | ⟨g, cap, cur, rfl, hB, hb, hn, hm, hc, ht⟩
  · exact ⟨none, 0, rfl, hl', fun h => absurd h (Nat.lt_irrefl _), fun ad e => by cases e⟩
  · refine ⟨some ⟨g, 0, none⟩, cap, rfl, hl', fun _ => ⟨g, cap, fun i => cur[i]?.getD undef, rfl, hn, ⟨cur, hb, by omega, fun i hi => ?_⟩, fun i hi => ?_⟩, fun ad e => ?_⟩
    · show cur[i]? = some (cur[i]?.getD undef)
      rw [Array.getElem?_eq_getElem (show i < cur.size by omega), Option.getD_some]
    · have e1 : (cur.toList.take (n * 1))[i]? = (xs.map (Value.int .i64))[i]? := by rw [ht]
      rw [List.getElem?_take_of_lt (by omega), List.getElem?_map, List.getElem?_eq_getElem (show i < xs.length by omega), Array.getElem?_toList] at e1
      show cur[i]?.getD undef = _
      rw [e1, List.getElem?_eq_getElem (show i < xs.length by omega)]; rfl
    · cases e
      exact ⟨hB, (Array.getElem?_eq_some_iff.1 hb).1⟩
end

/-- The marks from k on. -/
def marks (k : Int) (n : Nat) : List Int := (List.range n).map fun (i : Nat) => k + (i : Int)
theorem marks_len (k : Int) (n : Nat) : (marks k n).length = n := by simp [marks]
theorem marks_get {k : Int} {n i : Nat} (h : i < n) : (marks k n)[i]?.getD 0 = k + i := by
  simp [marks, h]

/-- What changed: the block of the slice with the address A alone. -/
structure Only (A : Option Addr) (w w' : World) : Prop where
  os : w'.os = w.os
  tape : w'.tape = w.tape
  output : w'.output = w.output
  size : w'.heap.size = w.heap.size
  block : ∀ k, (∀ ad, A = some ad → k ≠ ad.block) → w'.heap[k]? = w.heap[k]?
theorem Only.refl (A : Option Addr) (w : World) : Only A w w := ⟨rfl, rfl, rfl, rfl, fun _ _ => rfl⟩
theorem Only.set {w w' : World} {g i : Nat} (h : Only (some ⟨g, 0, none⟩) w w') (v : Value) : Only (some ⟨g, 0, none⟩) w (w'.setCell ⟨g, i, none⟩ v) :=
  ⟨h.os, h.tape, h.output, by simpa [World.setCell] using h.size, fun k hk => (Below.heap_setCell w' ⟨g, i, none⟩ v k (hk ⟨g, 0, none⟩ rfl)).trans (h.block k hk)⟩
theorem Only.below {w w' : World} {A : Option Addr} {B : Nat} (h : Only A w w') (hl : ∀ ad, A = some ad → B ≤ ad.block) : Below B w w' :=
  ⟨h.os, h.tape, h.output, by rw [h.size]; exact Nat.le_refl _, fun k hk => h.block k (fun ad e => by have := hl ad e; omega)⟩

theorem OwnAt.only {w w' : World} {B n : Nat} {A A' : Option Addr} {xs : List Int} (h : OwnAt w B A n xs) (ho : Only A' w w') (hd : ∀ ad ad', A = some ad → A' = some ad' → ad.block ≠ ad'.block) : OwnAt w' B A n xs :=
  h.keep (by rw [ho.size]; exact Nat.le_refl _) (fun ad e => ho.block _ (fun ad' e' => hd ad ad' e e'))
/-- Memory that holds a row of n cells from block b on, at the head of that block. -/
theorem OwnAt.row_low {w : World} {b n : Nat} {xs : List Int} (h : OwnAt w b (some ⟨b, 0, none⟩) n xs) : b < w.heap.size := (h.low _ rfl).2

def MarkPost (w : World) (B : Nat) (A : Option Addr) (n : Nat) (k : Int) (e : Ending) (w' : World) : Prop :=
  e = .returned (.int .i64 (k + n)) ∧ OwnAt w' B A n (marks k n) ∧ Only A w w'

set_option maxHeartbeats 400000 in
theorem mark_any (A : Option Addr) (n c B : Nat) (xs : List Int) (k : Int) (w : World) (h : OwnAt w B A n xs) (hn : n ≤ 1048576) (hk0 : 0 ≤ k) (hk1 : k ≤ 4294967296) :
    Calls Try.prog 26 #[.slice A n c, .int .i64 k] w (MarkPost w B A n k) := by
  by_cases h0 : n = 0
  · have hfin : MarkPost w B A n k (.returned (.int .i64 k)) w := by
      subst h0
      exact ⟨ret_int (by simp), ⟨by simp [marks], fun h => absurd h (Nat.lt_irrefl _), h.low⟩, Only.refl _ _⟩
    have hF := Lib.hid hfin; clear hfin h
    have hz : ¬ (0 : Int) < (n : Int) := by omega
    have hlow : n ≤ 0 := by omega
    clear h0
    go_enter Try.func26, Try.ntmps26
    go_wp2
    go_loop [1, 5] (fun a i => a = .int .i64 k ∧ i = .int .i64 0) (fun _ _ => 0)
    case atStart => exact ⟨rfl, rfl⟩
    case round =>
      obtain ⟨rfl, rfl⟩ := hrel
      go_wp2
      go_ret
      exact hF.out
  · obtain ⟨g, m, f, rfl, hm, hr, hf⟩ := h.own (by omega)
    have hlow := Lib.hid h.low
    clear h hf
    go_enter Try.func26, Try.ntmps26
    go_wp2
    have hr' := Lib.hid hr; clear hr
    go_loopw [1, 5] (fun a i wr => ∃ j : Nat, j ≤ n ∧ i = .int .i64 j ∧ a = .int .i64 (k + j) ∧ (∃ f', wr.rowIs g 3 m f' ∧ Hid (∀ i, i < j → f' i = .int .i64 (k + (i : Int)))) ∧ Only (some ⟨g, 0, none⟩) w wr) (fun _ i _ => n - (intOf i).toNat)
    case atStart => exact ⟨0, Nat.zero_le _, rfl, by simp, ⟨f, hr'.out, Lib.hid (fun _ h => absurd h (Nat.not_lt_zero _))⟩, Only.refl _ _⟩
    case round =>
      obtain ⟨j, hj, rfl, rfl, ⟨f', hrow, hf'⟩, honly⟩ := hrel
      by_cases hlt : j < n
      · have hd := hrow.cell (i := j) (by omega)
        have hfz := hrow.frozen j
        have hrow' := Lib.hid hrow; clear hrow
        have ho := Lib.hid honly; clear honly
        go_wp2
        go_roundw
        case rel =>
          refine ⟨j + 1, by omega, by go_num, by go_num, ⟨_, hrow'.out.set j _, Lib.hid (fun i hi => ?_)⟩, ho.out.set _⟩
          by_cases e : i = j
          · subst e; simp
          · simp only [e, if_false]; exact hf'.out i (by omega)
        case measure => simp [intOf]; omega
      · have hrow' := Lib.hid hrow; clear hrow
        have ho := Lib.hid honly; clear honly
        go_wp2
        go_ret
        refine ⟨ret_int (by omega), ⟨marks_len _ _, fun _ => ⟨g, m, f', rfl, hm, hrow'.out, fun i hi => ?_⟩, fun ad e => ⟨(hlow.out ad e).1, by rw [ho.out.size]; exact (hlow.out ad e).2⟩⟩, ho.out⟩
        rw [hf'.out i (by omega), marks_get hi]

theorem held_any (A : Option Addr) (n c B : Nat) (k : Int) (w : World) (h : IntsAt w B A n (marks k n)) (hn : n ≤ 1048576) (hk0 : 0 ≤ k) (hk1 : k ≤ 4294967296) :
    Calls Try.prog 32 #[.slice A n c, .int .i64 k] w fun e w' => e = .returned (.int .i64 (k + n)) ∧ w = w' := by
  have hr := Lib.hid h; clear h
  go_enter Try.func32, Try.ntmps32
  go_wp2
  go_loop [1, 5] (fun a i => ∃ j : Nat, j ≤ n ∧ i = .int .i64 j ∧ a = .int .i64 (k + j)) (fun _ i => n - (intOf i).toNat)
  case atStart => exact ⟨0, Nat.zero_le _, rfl, by simp⟩
  case round =>
    obtain ⟨j, hj, rfl, rfl⟩ := hrel
    by_cases hlt : j < n
    · obtain ⟨b, off, rfl, _, hc⟩ := hr.out.2 j hlt
      rw [marks_get hlt] at hc
      have hne : ((k + (j : Int)) != (k + (j : Int))) = false := by simp
      go_wp2
      go_round
      case rel => exact ⟨j + 1, by omega, by go_num, by go_num⟩
      case measure => simp [intOf]; omega
    · go_wp2
      go_ret
      exact ⟨ret_int (by omega), rfl⟩

def RetOwn (w : World) (b : Bool) (xs : List Int) (e : Ending) (w' : World) : Prop :=
  ∃ A n c, e = .returned (.tuple #[.slice A n c, .bool b]) ∧ OwnAt w' w.heap.size A n xs ∧ Below w.heap.size w w'
def RetSl (w : World) (xs : List Int) (e : Ending) (w' : World) : Prop :=
  ∃ A n c, e = .returned (.slice A n c) ∧ OwnAt w' w.heap.size A n xs ∧ Below w.heap.size w w'
theorem own_nil (w : World) (B : Nat) : OwnAt w B none 0 [] := ⟨rfl, fun h => absurd h (Nat.lt_irrefl _), fun _ e => by cases e⟩
theorem retOwn_nil (w : World) (b : Bool) : RetOwn w b [] (.returned (.tuple #[.slice none 0 0, .bool b])) w := ⟨none, 0, 0, rfl, own_nil _ _, Below.refl _ _⟩
end Go.Proofs.Ytgdgajgfehjjdaa
