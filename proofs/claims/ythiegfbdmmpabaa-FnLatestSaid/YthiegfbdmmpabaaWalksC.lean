/- What is proved here: plain facts on lists of integers, and how a slice in memory reads as such a list. No conditions. -/
import Derived.WalkKit
import Derived.WalkSpells
import Derived.Deep.OwnRows
import Derived.Lib.Hide
import Derived.Deep.Draws
import Derived.Test.YthiegfbdmmpabaaProg
import Derived.Deep.QuietTactic
import Derived.BigQuiet
import Derived.RegionTactic
namespace Go.Proofs.Ythiegfbdmmpabaa
open Go.RowKit

def inB (n lo hi : Int) : Bool := decide (lo ≤ n) && decide (n ≤ hi)
theorem inB_true {n lo hi : Int} (h1 : lo ≤ n) (h2 : n ≤ hi) : inB n lo hi = true := by simp [inB, h1, h2]
theorem inB_low {n lo hi : Int} (h : n < lo) : inB n lo hi = false := by simp [inB]; omega
theorem inB_high {n lo hi : Int} (h : hi < n) : inB n lo hi = false := by simp [inB]; omega
theorem inB_iff {n lo hi : Int} : inB n lo hi = true ↔ lo ≤ n ∧ n ≤ hi := by simp [inB]

def allB (xs : List Int) (lo hi : Int) : Bool := xs.all fun x => inB x lo hi
theorem allB_nil (lo hi : Int) : allB [] lo hi = true := rfl
theorem allB_step {xs : List Int} {lo hi : Int} {k : Nat} (hk : k < xs.length) (h : allB (xs.take k) lo hi = true) (hx : inB (xs[k]?.getD 0) lo hi = true) : allB (xs.take (k + 1)) lo hi = true := by
  rw [List.take_succ_eq_append_getElem hk]
  rw [List.getElem?_eq_getElem hk, Option.getD_some] at hx
  unfold allB at *
  simp only [List.all_append, h, List.all_cons, hx, List.all_nil, Bool.and_self]
theorem allB_no {xs : List Int} {lo hi : Int} {k : Nat} (hk : k < xs.length) (hx : inB (xs[k]?.getD 0) lo hi = false) : allB xs lo hi = false := by
  rw [List.getElem?_eq_getElem hk, Option.getD_some] at hx
  unfold allB
  rw [List.all_eq_false]
  exact ⟨xs[k], List.getElem_mem hk, by simp [hx]⟩
theorem allB_end {xs : List Int} {lo hi : Int} {k : Nat} (hk : xs.length ≤ k) (h : allB (xs.take k) lo hi = true) : allB xs lo hi = true := by
  rwa [List.take_of_length_le hk] at h

/-- GoodStakes, as the document says it. -/
def goodB (xs : List Int) : Bool := inB xs.length 1 10 && allB xs 1 1000

/-- The slice with the address A and n elements holds the numbers xs, in a block below B. -/
def IntsAt (w : World) (B : Nat) (A : Option Addr) (n : Nat) (xs : List Int) : Prop :=
  xs.length = n ∧ ∀ k, k < n → ∃ b off, A = some ⟨b, off, none⟩ ∧ b < B ∧ w.cell? ⟨b, off + k, none⟩ = some (.int .i64 (xs[k]?.getD 0))

section
variable {w w' : World} {B B' n : Nat} {A : Option Addr} {xs : List Int}
theorem IntsAt.none_ : IntsAt w B A 0 [] := ⟨rfl, fun _ h => absurd h (Nat.not_lt_zero _)⟩
theorem IntsAt.keep (h : IntsAt w B A n xs) (hk : ∀ p : Addr, p.block < B → w'.cell? p = w.cell? p) : IntsAt w' B A n xs :=
  ⟨h.1, fun k hn => by
    obtain ⟨b, off, e, hb, hc⟩ := h.2 k hn
    exact ⟨b, off, e, hb, (hk _ hb).trans hc⟩⟩
theorem IntsAt.more (h : IntsAt w B A n xs) (hB : B ≤ B') : IntsAt w B' A n xs :=
  ⟨h.1, fun k hn => by
    obtain ⟨b, off, e, hb, hc⟩ := h.2 k hn
    exact ⟨b, off, e, by omega, hc⟩⟩
theorem IntsAt.below (h : IntsAt w B A n xs) (hb : Below B w w') : IntsAt w' B A n xs := h.keep fun _ hp => hb.cell hp
theorem IntsAt.of_row {b : Nat} {t : TypeId} {c : Nat} (hn : n ≤ c) (hb : b < B) (hl : xs.length = n) (h : w.rowIs b t c (fun i => .int .i64 (xs[i]?.getD 0))) : IntsAt w B (some ⟨b, 0, none⟩) n xs :=
  ⟨hl, fun k hk => ⟨b, 0, rfl, hb, by rw [Nat.zero_add]; exact h.cell (by omega)⟩⟩
end

theorem rowIs_below {w w' : World} {b B : Nat} {t : TypeId} {n : Nat} {f : Nat → Value} (h : w.rowIs b t n f) (hb : Below B w w') (hB : b < B) : w'.rowIs b t n f := h.of_block (hb.block b hB)
theorem rowIs_drewN {w : World} {b : Nat} {t : TypeId} {n : Nat} {f : Nat → Value} (h : w.rowIs b t n f) (k : Nat) : (w.drewN k).rowIs b t n f := h
theorem below_drewN {B : Nat} {a w : World} (h : Below B a w) (n : Nat) : Below B a (w.drewN n) := ⟨h.os, h.tape, h.output, h.size, h.block⟩
theorem ret_bool {a b : Bool} (h : a = b) : Ending.returned (.bool a) = .returned (.bool b) := by rw [h]
theorem ret_int {a b : Int} (h : a = b) : Ending.returned (.int .i64 a) = .returned (.int .i64 b) := by rw [h]
end Go.Proofs.Ythiegfbdmmpabaa

/- What is proved here: what the functions on stakes return, at every slice of integers. No conditions. -/
namespace Go.Proofs.Ythiegfbdmmpabaa
open Go.RowKit

theorem l1In_any (n lo hi : Int) (w : World) :
    Calls Try.prog 80 #[.int .i64 n, .int .i64 lo, .int .i64 hi] w fun e w' => e = .returned (.bool (inB n lo hi)) ∧ w = w' := by
  by_cases h1 : lo ≤ n
  · by_cases h2 : n ≤ hi
    · go_enter Try.func80, Try.ntmps80
      go_wp2
      go_ret
      exact ⟨ret_bool (inB_true h1 h2).symm, rfl⟩
    · go_enter Try.func80, Try.ntmps80
      go_wp2
      go_ret
      exact ⟨ret_bool (inB_high (by omega)).symm, rfl⟩
  · go_enter Try.func80, Try.ntmps80
    go_wp2
    go_ret
    exact ⟨ret_bool (inB_low (by omega)).symm, rfl⟩

set_option maxHeartbeats 400000 in
theorem implGood_any (A : Option Addr) (n c B : Nat) (xs : List Int) (w : World) (h : IntsAt w B A n xs) (hn : n ≤ 1048576) :
    Calls Try.prog 85 #[.slice A n c] w fun e w' => e = .returned (.bool (goodB xs)) ∧ w = w' := by
  have hl := h.1
  by_cases h1 : n < 1
  · have hg : goodB xs = false := by unfold goodB; rw [inB_low (by omega)]; rfl
    have hg' := Lib.hid hg; clear hg hl
    go_enter Try.func85, Try.ntmps85
    go_wp2
    go_ret
    exact ⟨ret_bool hg'.out.symm, rfl⟩
  · by_cases h2 : 10 < n
    · have hg : goodB xs = false := by unfold goodB; rw [inB_high (by omega)]; rfl
      have hg' := Lib.hid hg; clear hg hl
      go_enter Try.func85, Try.ntmps85
      go_wp2
      go_ret
      exact ⟨ret_bool hg'.out.symm, rfl⟩
    · have hin : inB xs.length 1 10 = true := inB_true (by omega) (by omega)
      have hin' := Lib.hid hin; clear hin
      have hl' := Lib.hid hl; clear hl
      have hr := Lib.hid h; clear h
      go_enter Try.func85, Try.ntmps85
      go_wp2
      go_loop [15] (fun i => ∃ k : Nat, k ≤ n ∧ i = .int .i64 k ∧ allB (xs.take k) 1 1000 = true) (fun i => n - (intOf i).toNat)
      case atStart => exact ⟨0, Nat.zero_le _, rfl, allB_nil _ _⟩
      case round =>
        obtain ⟨k, hk, rfl, hall⟩ := hrel
        have hall' := Lib.hid hall; clear hall
        by_cases hlt : k < n
        · obtain ⟨b, off, rfl, _, hc⟩ := hr.out.2 k hlt
          by_cases g1 : xs[k]?.getD 0 < 1
          · go_wp2
            go_ret
            exact ⟨ret_bool (by unfold goodB; rw [allB_no (by rw [hl'.out]; exact hlt) (inB_low g1)]; simp), rfl⟩
          · by_cases g2 : 1000 < xs[k]?.getD 0
            · go_wp2
              go_ret
              exact ⟨ret_bool (by unfold goodB; rw [allB_no (by rw [hl'.out]; exact hlt) (inB_high g2)]; simp), rfl⟩
            · go_wp2
              go_round
              case rel => exact ⟨k + 1, by omega, by go_num, allB_step (by rw [hl'.out]; exact hlt) hall'.out (inB_true (by omega) (by omega))⟩
              case measure => simp [intOf]; omega
        · go_wp2
          go_ret
          exact ⟨ret_bool (by unfold goodB; rw [hin'.out, allB_end (by rw [hl'.out]; omega) hall'.out]; rfl), rfl⟩
end Go.Proofs.Ythiegfbdmmpabaa

/- What is proved here: what the model's functions on stakes, the law's copy and its comparison return, at every slice of integers. No conditions. -/
namespace Go.Proofs.Ythiegfbdmmpabaa
open Go.RowKit

theorem info3 : (Try.prog.info? 3).map (fun i => (i.zero, i.size, i.bytes)) = some (some (.int .i64 0), 1, 8) := by kernel_rfl

set_option maxHeartbeats 400000 in
theorem l1All_any (A : Option Addr) (n c B : Nat) (xs : List Int) (lo hi : Int) (w : World) (h : IntsAt w B A n xs) (hn : n ≤ 1048576) :
    Calls Try.prog 174 #[.slice A n c, .int .i64 lo, .int .i64 hi] w fun e w' => e = .returned (.bool (allB xs lo hi)) ∧ w = w' := by
  have hl' := Lib.hid h.1
  have hr := Lib.hid h; clear h
  go_enter Try.func174, Try.ntmps174
  go_wp2
  go_loop [11] (fun i => ∃ k : Nat, k ≤ n ∧ i = .int .i64 k ∧ allB (xs.take k) lo hi = true) (fun i => n - (intOf i).toNat)
  case atStart => exact ⟨0, Nat.zero_le _, rfl, allB_nil _ _⟩
  case round =>
    obtain ⟨k, hk, rfl, hall⟩ := hrel
    have hall' := Lib.hid hall; clear hall
    by_cases hlt : k < n
    · obtain ⟨b, off, rfl, _, hc⟩ := hr.out.2 k hlt
      cases hx : inB (xs[k]?.getD 0) lo hi
      · go_wp2_with (go_at_call 80; refine (l1In_any _ _ _ _).mono ?_; rintro e w' ⟨rfl, rfl⟩)
        go_ret
        exact ⟨ret_bool (allB_no (by rw [hl'.out]; exact hlt) hx).symm, rfl⟩
      · go_wp2_with (go_at_call 80; refine (l1In_any _ _ _ _).mono ?_; rintro e w' ⟨rfl, rfl⟩)
        go_round
        case rel => exact ⟨k + 1, by omega, by go_num, allB_step (by rw [hl'.out]; exact hlt) hall'.out hx⟩
        case measure => simp [intOf]; omega
    · go_wp2
      go_ret
      exact ⟨ret_bool (allB_end (by rw [hl'.out]; omega) hall'.out).symm, rfl⟩

theorem specGood_any (A : Option Addr) (n c B : Nat) (xs : List Int) (w : World) (h : IntsAt w B A n xs) (hn : n ≤ 1048576) :
    Calls Try.prog 149 #[.slice A n c] w fun e w' => e = .returned (.bool (goodB xs)) ∧ w = w' := by
  have hl' := Lib.hid h.1
  have hr := Lib.hid h; clear h
  cases hx : inB (n : Int) 1 10
  · have hg := Lib.hid (show goodB xs = false by unfold goodB; rw [hl'.out, hx]; rfl)
    go_enter Try.func149, Try.ntmps149
    go_wp2_with (go_at_call 80; refine (l1In_any _ _ _ _).mono ?_; rintro e w' ⟨rfl, rfl⟩)
    go_ret
    exact ⟨ret_bool hg.out.symm, rfl⟩
  · have hg := Lib.hid (show goodB xs = allB xs 1 1000 by unfold goodB; rw [hl'.out, hx]; rfl)
    go_enter Try.func149, Try.ntmps149
    go_wp2_with (first
      | (go_at_call 80; refine (l1In_any _ _ _ _).mono ?_; rintro e w' ⟨rfl, rfl⟩)
      | (go_at_call 174; refine (l1All_any _ _ _ B xs _ _ _ hr.out hn).mono ?_; rintro e w' ⟨rfl, rfl⟩))
    go_ret
    exact ⟨ret_bool hg.out.symm, rfl⟩

set_option maxHeartbeats 400000 in
theorem toIntS_any (A : Option Addr) (n c : Nat) (xs : List Int) (w : World) (h : IntsAt w w.heap.size A n xs) (hn : n ≤ 1048576) :
    Calls Try.prog 18 #[.slice A n c] w fun e w' => e = .returned (.slice (some ⟨w.heap.size, 0, none⟩) n n) ∧
      w'.rowIs w.heap.size 3 n (fun i => .int .i64 (xs[i]?.getD 0)) ∧ Below w.heap.size w w' ∧ w.heap.size < w'.heap.size := by
  have hl' := Lib.hid h.1
  have hr := Lib.hid h; clear h
  have hmk := fun W => run_make_row' (P := Try.prog) 23 3 (.int .i64 0) 8 Try.underlying23 info3 rfl .i64 .i64 n (by omega) (by omega) W
  go_enter Try.func18, Try.ntmps18
  go_wp2
  go_loopw [4] (fun i wr => ∃ k : Nat, k ≤ n ∧ i = .int .i64 k ∧ wr.rowIs w.heap.size 3 n (fun j => if j < k then .int .i64 (xs[j]?.getD 0) else .int .i64 0) ∧ Below w.heap.size w wr ∧ w.heap.size < wr.heap.size) (fun i _ => n - (intOf i).toNat)
  case atStart => exact ⟨0, Nat.zero_le _, rfl, (World.rowIs_made w (.int .i64 0) n 3).congr (by intro i hi; simp), (Below.refl _ _).alloc (Nat.le_refl _) _, by simp⟩
  case round =>
    obtain ⟨k, hk, rfl, hrow, hbel, hsz⟩ := hrel
    by_cases hlt : k < n
    · obtain ⟨b, off, rfl, hb, hc0⟩ := hr.out.2 k hlt
      have hc := (hbel.cell (p := ⟨b, off + k, none⟩) hb).trans hc0
      have hd := hrow.cell hlt
      have hf := hrow.frozen k
      have hrow' := Lib.hid hrow; clear hrow hc0
      go_wp2
      go_roundw
      case rel =>
        refine ⟨k + 1, by omega, by go_num, (hrow'.out.set k _).congr ?_, hbel.setCell (by simp) _, by simpa using hsz⟩
        intro j hj
        by_cases e : j = k
        · subst e; simp
        · simp [e]; by_cases e2 : j < k
          · simp [e2, show j < k + 1 by omega]
          · simp [e2, show ¬ j < k + 1 by omega]
      case measure => simp [intOf]; omega
    · have hrow' := Lib.hid hrow; clear hrow
      go_wp2
      go_ret
      exact ⟨rfl, hrow'.out.congr (by intro j hj; simp [show j < k by omega]), hbel, hsz⟩
end Go.Proofs.Ythiegfbdmmpabaa

/- What is proved here: the law's comparison of two slices of integers tells whether they read as the same list, at every two slices. No conditions. -/
namespace Go.Proofs.Ythiegfbdmmpabaa
open Go.RowKit

def eqB (xs ys : List Int) : Bool := decide (xs = ys)
theorem eqB_len {xs ys : List Int} (h : xs.length ≠ ys.length) : eqB xs ys = false := by
  unfold eqB; simp; rintro rfl; exact h rfl
theorem eqB_no {xs ys : List Int} {k : Nat} (h : xs[k]?.getD 0 ≠ ys[k]?.getD 0) : eqB xs ys = false := by
  unfold eqB; simp; rintro rfl; exact h rfl
theorem eqB_yes {xs ys : List Int} (hl : xs.length = ys.length) (h : ∀ j, j < xs.length → xs[j]?.getD 0 = ys[j]?.getD 0) : eqB xs ys = true := by
  unfold eqB; simp
  refine List.ext_getElem hl fun i h1 h2 => ?_
  have := h i h1
  rw [List.getElem?_eq_getElem h1, List.getElem?_eq_getElem h2] at this
  simpa using this

set_option maxHeartbeats 400000 in
theorem eqIntS_any (A A' : Option Addr) (n n' c c' B : Nat) (xs ys : List Int) (w : World) (h : IntsAt w B A n xs) (h' : IntsAt w B A' n' ys) (hn : n ≤ 1048576) (hn' : n' ≤ 1048576) :
    Calls Try.prog 22 #[.slice A n c, .slice A' n' c'] w fun e w' => e = .returned (.bool (eqB xs ys)) ∧ ∃ m, w' = w.drewN m := by
  have hl' := Lib.hid h.1
  have hr := Lib.hid h; clear h
  have hl2' := Lib.hid h'.1
  have hr2 := Lib.hid h'; clear h'
  by_cases he : n = n'
  · subst he
    have hne : ((n : Int) != (n : Int)) = false := by simp
    go_enter Try.func22, Try.ntmps22
    go_wp2
    go_loopw [5] (fun i wr => ∃ k : Nat, k ≤ n ∧ i = .int .i64 k ∧ Hid (∀ j, j < k → xs[j]?.getD 0 = ys[j]?.getD 0) ∧ ∃ m, wr = w.drewN m) (fun i _ => n - (intOf i).toNat)
    case atStart => exact ⟨0, Nat.zero_le _, rfl, Lib.hid (fun j hj => absurd hj (Nat.not_lt_zero _)), 0, rfl⟩
    case round =>
      obtain ⟨k, hk, rfl, hall, m, rfl⟩ := hrel
      by_cases hlt : k < n
      · obtain ⟨b, off, rfl, _, hc⟩ := hr.out.2 k hlt
        obtain ⟨b', off', rfl, _, hc'⟩ := hr2.out.2 k hlt
        cases hx : (xs[k]?.getD 0 != ys[k]?.getD 0)
        · go_wp2
          go_quiet (fail)
          go_wp2
          go_roundw
          case rel =>
            refine ⟨k + 1, by omega, by go_num, Lib.hid (fun j hj => ?_), _, rfl⟩
            by_cases e : j = k
            · subst e; simpa using hx
            · exact hall.out j (by omega)
          case measure => simp [intOf]; omega
        · go_wp2
          go_quiet (fail)
          go_wp2
          go_ret
          exact ⟨ret_bool (eqB_no (k := k) (by simpa using hx)).symm, _, World.drewN_drewN _ _ _⟩
      · go_wp2
        go_ret
        exact ⟨ret_bool (eqB_yes (by rw [hl'.out, hl2'.out]) (fun j hj => hall.out j (by rw [hl'.out] at hj; omega))).symm, _, rfl⟩
  · have hne : ((n : Int) != (n' : Int)) = true := by simp; omega
    have hq := Lib.hid (eqB_len (xs := xs) (ys := ys) (by rw [hl'.out, hl2'.out]; exact he))
    go_enter Try.func22, Try.ntmps22
    go_wp2
    go_ret
    exact ⟨ret_bool hq.out.symm, 0, rfl⟩
end Go.Proofs.Ythiegfbdmmpabaa
