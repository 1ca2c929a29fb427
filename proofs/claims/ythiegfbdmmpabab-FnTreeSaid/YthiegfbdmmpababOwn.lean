/- What is proved here: plain facts on rising lists of integers and on sums. No conditions. -/
import Derived.Test.YthiegfbdmmpababWalksC
import Derived.OwnWalk
namespace Go.Proofs.Ythiegfbdmmpabab
open Go.RowKit

def risAt (xs : List Int) (lo hi : Int) (k : Nat) : Bool := inB (xs[k]?.getD 0) lo hi && (k == 0 || decide (xs[k-1]?.getD 0 < xs[k]?.getD 0))
def risB (xs : List Int) (lo hi : Int) : Bool := (List.range xs.length).all fun k => risAt xs lo hi k
theorem risB_iff {xs : List Int} {lo hi : Int} : risB xs lo hi = true ↔ ∀ k, k < xs.length → risAt xs lo hi k = true := by
  simp [risB, List.all_eq_true]
theorem risAt_iff {xs : List Int} {lo hi : Int} {k : Nat} : risAt xs lo hi k = true ↔ (lo ≤ xs[k]?.getD 0 ∧ xs[k]?.getD 0 ≤ hi) ∧ (0 < k → xs[k-1]?.getD 0 < xs[k]?.getD 0) := by
  unfold risAt
  rw [Bool.and_eq_true, inB_iff, Bool.or_eq_true, beq_iff_eq, decide_eq_true_iff]
  constructor
  · rintro ⟨h, h2⟩; exact ⟨h, fun hk => by rcases h2 with h2 | h2; omega; exact h2⟩
  · rintro ⟨h, h2⟩; exact ⟨h, by by_cases e : k = 0; exact .inl e; exact .inr (h2 (by omega))⟩
theorem risB_no {xs : List Int} {lo hi : Int} {k : Nat} (hk : k < xs.length) (h : risAt xs lo hi k = false) : risB xs lo hi = false := by
  cases e : risB xs lo hi
  · rfl
  · rw [risB_iff] at e; rw [e k hk] at h; cases h
theorem risB_in {xs : List Int} {lo hi : Int} (h : risB xs lo hi = true) {k : Nat} (hk : k < xs.length) : lo ≤ xs[k]?.getD 0 ∧ xs[k]?.getD 0 ≤ hi :=
  (risAt_iff.1 (risB_iff.1 h k hk)).1
theorem ris_mono {xs : List Int} {lo hi : Int} (h : risB xs lo hi = true) : ∀ d k, k + d < xs.length → xs[k]?.getD 0 ≤ xs[k+d]?.getD 0 := by
  intro d
  induction d with
  | zero => intro k _; exact Int.le_refl _
  | succ d ih =>
    intro k hk
    have h1 := ih k (by omega)
    have h2 := (risAt_iff.1 (risB_iff.1 h (k + (d + 1)) hk)).2 (by omega)
    rw [show k + (d + 1) - 1 = k + d by omega] at h2
    omega
/-- Rising within 0..9 with a last element below n: rising within 0..n-1. -/
theorem ris_of_last {xs : List Int} {n : Int} (h : risB xs 0 9 = true) (hl : xs[xs.length - 1]?.getD 0 < n) : risB xs 0 (n - 1) = true := by
  rw [risB_iff]
  intro k hk
  have h1 := risAt_iff.1 (risB_iff.1 h k hk)
  have h2 := ris_mono h (xs.length - 1 - k) k (by omega)
  rw [show k + (xs.length - 1 - k) = xs.length - 1 by omega] at h2
  exact risAt_iff.2 ⟨⟨h1.1.1, by omega⟩, h1.2⟩
theorem ris_not_last {xs : List Int} {n : Int} (h0 : 0 < xs.length) (hl : ¬ xs[xs.length - 1]?.getD 0 < n) : risB xs 0 (n - 1) = false := by
  cases e : risB xs 0 (n - 1)
  · rfl
  · have := risB_in e (k := xs.length - 1) (by omega); omega
theorem ris_wider {xs : List Int} {lo hi hi' : Int} (h : risB xs lo hi = true) (hh : hi ≤ hi') : risB xs lo hi' = true := by
  rw [risB_iff]
  intro k hk
  have h1 := risAt_iff.1 (risB_iff.1 h k hk)
  exact risAt_iff.2 ⟨⟨h1.1.1, by omega⟩, h1.2⟩
theorem ris_nil {lo hi : Int} : risB [] lo hi = true := rfl

/-- A group of the voters of some stakes. -/
def ofB (s who : List Int) : Bool := goodB s && risB who 0 ((s.length : Int) - 1)
theorem goodB_iff {s : List Int} : goodB s = true ↔ (1 ≤ (s.length : Int) ∧ (s.length : Int) ≤ 10) ∧ allB s 1 1000 = true := by
  unfold goodB; rw [Bool.and_eq_true, inB_iff]
theorem allB_get {s : List Int} {lo hi : Int} (h : allB s lo hi = true) {k : Nat} (hk : k < s.length) : lo ≤ s[k]?.getD 0 ∧ s[k]?.getD 0 ≤ hi := by
  unfold allB at h
  rw [List.all_eq_true] at h
  rw [List.getElem?_eq_getElem hk, Option.getD_some]
  exact inB_iff.1 (h _ (List.getElem_mem hk))

def sumL (s : List Int) : Int := s.sum
theorem sumL_step {s : List Int} {k : Nat} (hk : k < s.length) : sumL (s.take (k + 1)) = sumL (s.take k) + s[k]?.getD 0 := by
  rw [List.take_succ_eq_append_getElem hk, List.getElem?_eq_getElem hk, Option.getD_some]; simp only [sumL, List.sum_append, List.sum_cons, List.sum_nil, Int.add_zero]
theorem sumL_bd {s : List Int} {m : Int} (h : ∀ k, k < s.length → 0 ≤ s[k]?.getD 0 ∧ s[k]?.getD 0 ≤ m) : ∀ k, k ≤ s.length → 0 ≤ sumL (s.take k) ∧ sumL (s.take k) ≤ m * k := by
  intro k
  induction k with
  | zero => intro _; simp [sumL]
  | succ k ih =>
    intro hk
    have h1 := ih (by omega)
    have h2 := h k (by omega)
    rw [sumL_step (by omega)]
    have e : m * ((k + 1 : Nat) : Int) = m * k + m := by rw [Int.natCast_add, Int.mul_add]; simp
    rw [e]; omega
theorem sumL_end {s : List Int} {k : Nat} (h : s.length ≤ k) : sumL (s.take k) = sumL s := by rw [List.take_of_length_le h]
/-- The weights of some voters, one by one. -/
def stakesOf (s who : List Int) : List Int := who.map fun k => s[k.toNat]?.getD 0
def wtL (s who : List Int) : Int := sumL (stakesOf s who)
theorem stakesOf_len (s who : List Int) : (stakesOf s who).length = who.length := by simp [stakesOf]
theorem stakesOf_get (s who : List Int) {k : Nat} (hk : k < who.length) : (stakesOf s who)[k]?.getD 0 = s[(who[k]?.getD 0).toNat]?.getD 0 := by
  simp [stakesOf, List.getElem?_eq_getElem hk]
def greatB (s who : List Int) : Bool := decide (2 * sumL s ≤ 3 * wtL s who)
end Go.Proofs.Ythiegfbdmmpabab

/- What is proved here: what the functions on groups of voters return, at every two slices of integers. No conditions. -/
namespace Go.Proofs.Ythiegfbdmmpabab
open Go.RowKit

def lastOf (xs : List Int) (k : Nat) : Int := if k = 0 then -1 else xs[k-1]?.getD 0
theorem risAt_last {xs : List Int} {k : Nat} (h1 : lastOf xs k < xs[k]?.getD 0) (h2 : xs[k]?.getD 0 < 10) (h0 : -1 ≤ lastOf xs k) : risAt xs 0 9 k = true := by
  rw [risAt_iff]
  unfold lastOf at *
  split at h1
  · exact ⟨⟨by omega, by omega⟩, by omega⟩
  · rename_i hk; simp only [hk, if_false] at h0; exact ⟨⟨by omega, by omega⟩, fun _ => h1⟩
theorem risAt_not {xs : List Int} {k : Nat} (h : xs[k]?.getD 0 ≤ lastOf xs k ∨ 10 ≤ xs[k]?.getD 0) : risAt xs 0 9 k = false := by
  cases e : risAt xs 0 9 k
  · rfl
  · rw [risAt_iff] at e
    unfold lastOf at h
    split at h
    · omega
    · have := e.2 (by omega); omega

end Go.Proofs.Ythiegfbdmmpabab

/- What is proved here: what WeightOf and IsGreat return, in the program and in the model, at every two slices of integers. No conditions. -/
namespace Go.Proofs.Ythiegfbdmmpabab
open Go.RowKit

theorem ret_two {a b : Int} {c d : Bool} (h : a = b) (h' : c = d) : Ending.returned (.tuple #[.int .i64 a, .bool c]) = .returned (.tuple #[.int .i64 b, .bool d]) := by rw [h, h']
theorem ret_bools {a b c d : Bool} (h : a = b) (h' : c = d) : Ending.returned (.tuple #[.bool a, .bool c]) = .returned (.tuple #[.bool b, .bool d]) := by rw [h, h']

def wOf (s who : List Int) : Int := if ofB s who = true then wtL s who else 0
def gOf (s who : List Int) : Bool := ofB s who && greatB s who

/-- Stakes that are good: their bounds, one by one. -/
def Bds (s : List Int) : Prop := ∀ k, k < s.length → 0 ≤ s[k]?.getD 0 ∧ s[k]?.getD 0 ≤ 1000
theorem bds_of_good {s : List Int} (h : goodB s = true) : Bds s := fun k hk => by
  have := allB_get (goodB_iff.1 h).2 hk; omega
/-- Some voters of some stakes. -/
def Vot (m : Nat) (who : List Int) : Prop := ∀ k, k < who.length → 0 ≤ who[k]?.getD 0 ∧ who[k]?.getD 0 < (m : Int)
theorem vot_of_ris {m : Nat} {who : List Int} (h : risB who 0 ((m : Int) - 1) = true) : Vot m who := fun k hk => by
  have := risB_in h hk; omega
theorem bds_stakesOf {s who : List Int} (h : Bds s) (hv : Vot s.length who) : Bds (stakesOf s who) := fun k hk => by
  rw [stakesOf_len] at hk
  rw [stakesOf_get s who hk]
  have := hv k hk
  exact h _ (by omega)

set_option maxHeartbeats 400000 in
theorem specSum_any (A : Option Addr) (n c B : Nat) (xs : List Int) (w : World) (h : IntsAt w B A n xs) (hn : n ≤ 1048576) (hb : Bds xs) :
    Calls Try.prog 98 #[.slice A n c] w fun e w' => e = .returned (.int .i64 (sumL xs)) ∧ w = w' := by
  have hl' := Lib.hid h.1
  have hr := Lib.hid h; clear h
  have hb' := Lib.hid hb; clear hb
  go_enter Try.func98, Try.ntmps98
  go_wp2
  go_loop [3, 8] (fun s i => ∃ k : Nat, k ≤ n ∧ i = .int .i64 k ∧ s = .int .i64 (sumL (xs.take k))) (fun _ i => n - (intOf i).toNat)
  case atStart => exact ⟨0, Nat.zero_le _, rfl, rfl⟩
  case round =>
    obtain ⟨k, hk, rfl, rfl⟩ := hrel
    by_cases hlt : k < n
    · obtain ⟨b, off, rfl, _, hc⟩ := hr.out.2 k hlt
      have hs := Lib.hid (sumL_step (s := xs) (k := k) (by rw [hl'.out]; exact hlt))
      obtain ⟨g1, g2⟩ := sumL_bd hb'.out k (by rw [hl'.out]; exact hk)
      obtain ⟨g3, g4⟩ := hb'.out k (by rw [hl'.out]; exact hlt)
      go_wp2
      go_round
      case rel => exact ⟨k + 1, by omega, by go_num, by rw [hs.out]⟩
      case measure => simp [intOf]; omega
    · go_wp2
      go_ret
      exact ⟨ret_int (sumL_end (by rw [hl'.out]; omega)), rfl⟩

end Go.Proofs.Ythiegfbdmmpabab

/- What is proved here: what WeightOf and IsGreat return, in the program and in the model, at every two slices of integers. No conditions. -/
namespace Go.Proofs.Ythiegfbdmmpabab
open Go.RowKit

theorem of_parts {s xs : List Int} {m : Nat} (hl : s.length = m) (h : ofB s xs = true) : Bds s ∧ Vot m xs ∧ m ≤ 10 := by
  unfold ofB at h
  rw [Bool.and_eq_true, hl] at h
  have := (goodB_iff.1 h.1).1
  exact ⟨bds_of_good h.1, vot_of_ris h.2, by omega⟩
theorem sumL_all {s : List Int} (h : Bds s) : 0 ≤ sumL s ∧ sumL s ≤ 1000 * s.length := by
  have := sumL_bd h s.length (Nat.le_refl _)
  rwa [List.take_length] at this

theorem wtL_bd {s xs : List Int} (h : Bds s) (hv : Vot s.length xs) : 0 ≤ wtL s xs ∧ wtL s xs ≤ 1000 * xs.length := by
  have := sumL_all (bds_stakesOf h hv)
  rwa [stakesOf_len] at this

end Go.Proofs.Ythiegfbdmmpabab

/- What is proved here: plain facts on slices that a call has made itself, and what the law's marking and its look at the marks do to them. No conditions. -/
namespace Go.Proofs.Ythiegfbdmmpabab
open Go.RowKit

/-- The slice with the address A and n elements holds xs; where it is not nil it begins a block of its own, from block B on. -/
structure OwnAt (w : World) (B : Nat) (A : Option Addr) (n : Nat) (xs : List Int) : Prop where
  len : xs.length = n
  own : 0 < n → ∃ g m f, A = some ⟨g, 0, none⟩ ∧ n ≤ m ∧ w.rowIs g 3 m f ∧ ∀ i, i < n → f i = .int .i64 (xs[i]?.getD 0)
  low : ∀ ad, A = some ad → B ≤ ad.block ∧ ad.block < w.heap.size

section
variable {w w' : World} {B B' n : Nat} {A : Option Addr} {xs : List Int}
theorem OwnAt.ints (h : OwnAt w B A n xs) : IntsAt w w.heap.size A n xs :=
  ⟨h.len, fun k hk => by
    obtain ⟨g, m, f, e, hm, hr, hf⟩ := h.own (by omega)
    exact ⟨g, 0, e, hr.lt, by rw [Nat.zero_add, hr.cell (by omega), hf k hk]⟩⟩
theorem OwnAt.fewer (h : OwnAt w B A n xs) (hB : B' ≤ B) : OwnAt w B' A n xs :=
  ⟨h.len, h.own, fun ad e => ⟨Nat.le_trans hB (h.low ad e).1, (h.low ad e).2⟩⟩
/-- Its block is as it was. -/
theorem OwnAt.keep (h : OwnAt w B A n xs) (hs : w.heap.size ≤ w'.heap.size) (hk : ∀ ad, A = some ad → w'.heap[ad.block]? = w.heap[ad.block]?) : OwnAt w' B A n xs :=
  ⟨h.len, fun hn => by
    obtain ⟨g, m, f, e, hm, hr, hf⟩ := h.own hn
    exact ⟨g, m, f, e, hm, hr.of_block (hk _ e), hf⟩, fun ad e => ⟨(h.low ad e).1, Nat.lt_of_lt_of_le (h.low ad e).2 hs⟩⟩
theorem OwnAt.below (h : OwnAt w B A n xs) (hb : Below w.heap.size w w') : OwnAt w' B A n xs :=
  h.keep hb.size (fun ad e => hb.block _ (h.low ad e).2)
theorem OwnAt.drewN (h : OwnAt w B A n xs) (k : Nat) : OwnAt (w.drewN k) B A n xs := ⟨h.len, h.own, h.low⟩
theorem OwnAt.of_row {b : Nat} (hb : w.heap.size > b) (hl : xs.length = n) (h : w.rowIs b 3 n (fun i => .int .i64 (xs[i]?.getD 0))) : OwnAt w b (some ⟨b, 0, none⟩) n xs :=
  ⟨hl, fun _ => ⟨b, n, _, rfl, Nat.le_refl _, h, fun _ _ => rfl⟩, fun ad e => by cases e; exact ⟨Nat.le_refl _, hb⟩⟩
theorem OwnAt.of_owns {v : Value} (h : w.ownsRow B 3 1 v n (xs.map (Value.int .i64))) : ∃ A c, v = .slice A n c ∧ OwnAt w B A n xs := by
  obtain ⟨hl, hh⟩ := h
  have hl' : xs.length = n := by simpa using hl
  rcases hh with ⟨rfl, rfl⟩ | ⟨g, cap, cur, rfl, hB, hb, hn, hm, hc, ht⟩
  · exact ⟨none, 0, rfl, hl', fun h => absurd h (Nat.lt_irrefl _), fun ad e => by cases e⟩
  · refine ⟨some ⟨g, 0, none⟩, cap, rfl, hl', fun _ => ⟨g, cap, fun i => cur[i]?.getD undef, rfl, hn, ⟨cur, hb, by omega, fun i hi => ?_⟩, fun i hi => ?_⟩, fun ad e => ?_⟩
    · show cur[i]? = some (cur[i]?.getD undef)
      rw [Array.getElem?_eq_getElem (show i < cur.size by omega), Option.getD_some]
    · have e1 : (cur.toList.take (n * 1))[i]? = (xs.map (Value.int .i64))[i]? := by rw [ht]
      rw [List.getElem?_take_of_lt (by omega), List.getElem?_map, List.getElem?_eq_getElem (show i < xs.length by omega), Array.getElem?_toList] at e1
      show cur[i]?.getD undef = _
      rw [e1, List.getElem?_eq_getElem (show i < xs.length by omega)]; rfl
    · cases e
      exact ⟨hB, (Array.getElem?_eq_some_iff.1 hb).1⟩
end

/-- The marks from k on. -/
def marks (k : Int) (n : Nat) : List Int := (List.range n).map fun (i : Nat) => k + (i : Int)
theorem marks_len (k : Int) (n : Nat) : (marks k n).length = n := by simp [marks]
theorem marks_get {k : Int} {n i : Nat} (h : i < n) : (marks k n)[i]?.getD 0 = k + i := by
  simp [marks, h]

/-- What changed: the block of the slice with the address A alone. -/
structure Only (A : Option Addr) (w w' : World) : Prop where
  os : w'.os = w.os
  tape : w'.tape = w.tape
  output : w'.output = w.output
  size : w'.heap.size = w.heap.size
  block : ∀ k, (∀ ad, A = some ad → k ≠ ad.block) → w'.heap[k]? = w.heap[k]?
theorem Only.refl (A : Option Addr) (w : World) : Only A w w := ⟨rfl, rfl, rfl, rfl, fun _ _ => rfl⟩
theorem Only.set {w w' : World} {g i : Nat} (h : Only (some ⟨g, 0, none⟩) w w') (v : Value) : Only (some ⟨g, 0, none⟩) w (w'.setCell ⟨g, i, none⟩ v) :=
  ⟨h.os, h.tape, h.output, by simpa [World.setCell] using h.size, fun k hk => (Below.heap_setCell w' ⟨g, i, none⟩ v k (hk ⟨g, 0, none⟩ rfl)).trans (h.block k hk)⟩
theorem Only.below {w w' : World} {A : Option Addr} {B : Nat} (h : Only A w w') (hl : ∀ ad, A = some ad → B ≤ ad.block) : Below B w w' :=
  ⟨h.os, h.tape, h.output, by rw [h.size]; exact Nat.le_refl _, fun k hk => h.block k (fun ad e => by have := hl ad e; omega)⟩

theorem OwnAt.only {w w' : World} {B n : Nat} {A A' : Option Addr} {xs : List Int} (h : OwnAt w B A n xs) (ho : Only A' w w') (hd : ∀ ad ad', A = some ad → A' = some ad' → ad.block ≠ ad'.block) : OwnAt w' B A n xs :=
  h.keep (by rw [ho.size]; exact Nat.le_refl _) (fun ad e => ho.block _ (fun ad' e' => hd ad ad' e e'))
/-- Memory that holds a row of n cells from block b on, at the head of that block. -/
theorem OwnAt.row_low {w : World} {b n : Nat} {xs : List Int} (h : OwnAt w b (some ⟨b, 0, none⟩) n xs) : b < w.heap.size := (h.low _ rfl).2

def MarkPost (w : World) (B : Nat) (A : Option Addr) (n : Nat) (k : Int) (e : Ending) (w' : World) : Prop :=
  e = .returned (.int .i64 (k + n)) ∧ OwnAt w' B A n (marks k n) ∧ Only A w w'

def RetOwn (w : World) (b : Bool) (xs : List Int) (e : Ending) (w' : World) : Prop :=
  ∃ A n c, e = .returned (.tuple #[.slice A n c, .bool b]) ∧ OwnAt w' w.heap.size A n xs ∧ Below w.heap.size w w'
def RetSl (w : World) (xs : List Int) (e : Ending) (w' : World) : Prop :=
  ∃ A n c, e = .returned (.slice A n c) ∧ OwnAt w' w.heap.size A n xs ∧ Below w.heap.size w w'
theorem own_nil (w : World) (B : Nat) : OwnAt w B none 0 [] := ⟨rfl, fun h => absurd h (Nat.lt_irrefl _), fun _ e => by cases e⟩
theorem retOwn_nil (w : World) (b : Bool) : RetOwn w b [] (.returned (.tuple #[.slice none 0 0, .bool b])) w := ⟨none, 0, 0, rfl, own_nil _ _, Below.refl _ _⟩
end Go.Proofs.Ythiegfbdmmpabab
