/- What is proved here: plain facts on lists of integers, and how a slice in memory reads as such a list. No conditions. -/
import Derived.WalkKit
import Derived.WalkSpells
import Derived.Deep.OwnRows
import Derived.Lib.Hide
import Derived.Deep.Draws
namespace Go.Proofs.Ytgdgajgfehjjdaa
open Go.RowKit

def inB (n lo hi : Int) : Bool := decide (lo ≤ n) && decide (n ≤ hi)
theorem inB_true {n lo hi : Int} (h1 : lo ≤ n) (h2 : n ≤ hi) : inB n lo hi = true := by simp [inB, h1, h2]
theorem inB_low {n lo hi : Int} (h : n < lo) : inB n lo hi = false := by simp [inB]; omega
theorem inB_high {n lo hi : Int} (h : hi < n) : inB n lo hi = false := by simp [inB]; omega
theorem inB_iff {n lo hi : Int} : inB n lo hi = true ↔ lo ≤ n ∧ n ≤ hi := by simp [inB]

def allB (xs : List Int) (lo hi : Int) : Bool := xs.all fun x => inB x lo hi
theorem allB_nil (lo hi : Int) : allB [] lo hi = true := rfl
theorem allB_step {xs : List Int} {lo hi : Int} {k : Nat} (hk : k < xs.length) (h : allB (xs.take k) lo hi = true) (hx : inB (xs[k]?.getD 0) lo hi = true) : allB (xs.take (k + 1)) lo hi = true := by
  rw [List.take_succ_eq_append_getElem hk]
  rw [List.getElem?_eq_getElem hk, Option.getD_some] at hx
  unfold allB at *
  simp only [List.all_append, h, List.all_cons, hx, List.all_nil, Bool.and_self]
theorem allB_no {xs : List Int} {lo hi : Int} {k : Nat} (hk : k < xs.length) (hx : inB (xs[k]?.getD 0) lo hi = false) : allB xs lo hi = false := by
  rw [List.getElem?_eq_getElem hk, Option.getD_some] at hx
  unfold allB
  rw [List.all_eq_false]
  exact ⟨xs[k], List.getElem_mem hk, by simp [hx]⟩
theorem allB_end {xs : List Int} {lo hi : Int} {k : Nat} (hk : xs.length ≤ k) (h : allB (xs.take k) lo hi = true) : allB xs lo hi = true := by
  rwa [List.take_of_length_le hk] at h

/-- GoodStakes, as the document says it. -/
def goodB (xs : List Int) : Bool := inB xs.length 1 10 && allB xs 1 1000

/-- The slice with the address A and n elements holds the numbers xs, in a block below B. -/
def IntsAt (w : World) (B : Nat) (A : Option Addr) (n : Nat) (xs : List Int) : Prop :=
  xs.length = n ∧ ∀ k, k < n → ∃ b off, A = some ⟨b, off, none⟩ ∧ b < B ∧ w.cell? ⟨b, off + k, none⟩ = some (.int .i64 (xs[k]?.getD 0))

section
variable {w w' : World} {B B' n : Nat} {A : Option Addr} {xs : List Int}
theorem IntsAt.none_ : IntsAt w B A 0 [] := ⟨rfl, fun _ h => absurd h (Nat.not_lt_zero _)⟩
theorem IntsAt.keep (h : IntsAt w B A n xs) (hk : ∀ p : Addr, p.block < B → w'.cell? p = w.cell? p) : IntsAt w' B A n xs :=
  ⟨h.1, fun k hn => by
    obtain ⟨b, off, e, hb, hc⟩ := h.2 k hn
    exact ⟨b, off, e, hb, (hk _ hb).trans hc⟩⟩
theorem IntsAt.more (h : IntsAt w B A n xs) (hB : B ≤ B') : IntsAt w B' A n xs :=
  ⟨h.1, fun k hn => by
    obtain ⟨b, off, e, hb, hc⟩ := h.2 k hn
    exact ⟨b, off, e, by omega, hc⟩⟩
theorem IntsAt.below (h : IntsAt w B A n xs) (hb : Below B w w') : IntsAt w' B A n xs := h.keep fun _ hp => hb.cell hp
theorem IntsAt.of_row {b : Nat} {t : TypeId} {c : Nat} (hn : n ≤ c) (hb : b < B) (hl : xs.length = n) (h : w.rowIs b t c (fun i => .int .i64 (xs[i]?.getD 0))) : IntsAt w B (some ⟨b, 0, none⟩) n xs :=
  ⟨hl, fun k hk => ⟨b, 0, rfl, hb, by rw [Nat.zero_add]; exact h.cell (by omega)⟩⟩
end

theorem rowIs_below {w w' : World} {b B : Nat} {t : TypeId} {n : Nat} {f : Nat → Value} (h : w.rowIs b t n f) (hb : Below B w w') (hB : b < B) : w'.rowIs b t n f := h.of_block (hb.block b hB)
theorem rowIs_drewN {w : World} {b : Nat} {t : TypeId} {n : Nat} {f : Nat → Value} (h : w.rowIs b t n f) (k : Nat) : (w.drewN k).rowIs b t n f := h
theorem below_drewN {B : Nat} {a w : World} (h : Below B a w) (n : Nat) : Below B a (w.drewN n) := ⟨h.os, h.tape, h.output, h.size, h.block⟩
theorem ret_bool {a b : Bool} (h : a = b) : Ending.returned (.bool a) = .returned (.bool b) := by rw [h]
theorem ret_int {a b : Int} (h : a = b) : Ending.returned (.int .i64 a) = .returned (.int .i64 b) := by rw [h]
end Go.Proofs.Ytgdgajgfehjjdaa
