/- What is proved here: what the model's paths are, and DepthOf of the program and of the model. No conditions. -/
import Derived.Test.YtidlelkckkidbabSteps
import Derived.Test.YtidlelkckkidbabOwn
namespace Go.Proofs.Ytidlelkckkidbab
open Go.RowKit

/-- The tree is valid and b is one of its blocks. -/
def okK (ts : List Blk) (b : Int) : Bool := goodT ts && inB b 0 (ts.length - 1)
theorem okK_iff {ts : List Blk} {b : Int} : okK ts b = true ↔ Tree ts ∧ ∃ k : Nat, b = k ∧ k < ts.length := by
  unfold okK
  rw [Bool.and_eq_true, goodT_iff, inB_iff]
  constructor
  · rintro ⟨h, h0, h1⟩
    exact ⟨h, b.toNat, by omega, by omega⟩
  · rintro ⟨h, k, rfl, hk⟩
    exact ⟨h, by omega, by omega⟩
theorem isBlock_ok (A : Option Addr) (n c : Nat) (ts : List Blk) (b : Int) (w : World) (h : BlksAt w w.heap.size A n ts) (hn : n ≤ 1048576) :
    Calls Try.prog 18 #[.slice A n c, .int .i64 b] w (UpPost w (.bool (okK ts b))) := by
  unfold okK; rw [h.1]; exact isBlock_any A n c ts b w h hn
theorem there_ok (A : Option Addr) (n c : Nat) (ts : List Blk) (b : Int) (w : World) (h : BlksAt w w.heap.size A n ts) (hn : n ≤ 1048576) :
    Calls Try.prog 16 #[.slice A n c, .int .i64 b] w (UpPost w (.bool (okK ts b))) := by
  unfold okK; rw [h.1]
  cases hg : goodT ts
  · go_enter Try.func16, Try.ntmps16
    go_wp2_with (go_at_call 21; refine (specGoodT_any _ _ _ ts _ h hn).mono ?_; rintro e w' ⟨rfl, hb⟩; rw [hg])
    go_ret
    exact ⟨rfl, hb⟩
  · by_cases h0 : 0 ≤ b
    · by_cases h1 : b < n
      · have hr := Lib.hid (inB_true h0 (show b ≤ (n : Int) - 1 by omega))
        go_enter Try.func16, Try.ntmps16
        go_wp2_with (go_at_call 21; refine (specGoodT_any _ _ _ ts _ h hn).mono ?_; rintro e w' ⟨rfl, hb⟩; rw [hg])
        go_ret
        exact ⟨ret_bool (by rw [hr.out]; simp), hb⟩
      · have hr := Lib.hid (inB_high (lo := 0) (show (n : Int) - 1 < b by omega))
        go_enter Try.func16, Try.ntmps16
        go_wp2_with (go_at_call 21; refine (specGoodT_any _ _ _ ts _ h hn).mono ?_; rintro e w' ⟨rfl, hb⟩; rw [hg])
        go_ret
        exact ⟨ret_bool (by rw [hr.out]; simp; omega), hb⟩
    · have hr := Lib.hid (inB_low (hi := (n : Int) - 1) (show b < 0 by omega))
      go_enter Try.func16, Try.ntmps16
      go_wp2_with (go_at_call 21; refine (specGoodT_any _ _ _ ts _ h hn).mono ?_; rintro e w' ⟨rfl, hb⟩; rw [hg])
      go_ret
      exact ⟨ret_bool (by rw [hr.out]), hb⟩

def wayV (ts : List Blk) (k : Nat) : List Int := (way ts k).map fun (j : Nat) => (j : Int)
theorem wayV_len {ts : List Blk} (h : Tree ts) {k : Nat} (hk : k < ts.length) : (wayV ts k).length = dep ts k + 1 := by
  unfold wayV; rw [List.length_map, way_len h hk]
theorem wayV_root (ts : List Blk) : wayV ts 0 = [0] := rfl
theorem wayV_step {ts : List Blk} (h : Tree ts) {k : Nat} (hk : k < ts.length) (h0 : k ≠ 0) : wayV ts k = wayV ts (parN ts k) ++ [(k : Int)] := by
  unfold wayV; rw [way_step h hk h0]; simp
/-- A slice of the call's own, which holds xs. -/
def OwnPost (w : World) (xs : List Int) (e : Ending) (w' : World) : Prop :=
  ∃ v, e = .returned v ∧ w'.ownsRow w.heap.size 3 1 v xs.length (xs.map (Value.int .i64)) ∧ Below w.heap.size w w'

/-- What is known of a path in memory: its value, and that it reads so. -/
theorem OwnPost.sl {w w' : World} {xs : List Int} {e : Ending} (h : OwnPost w xs e w') : RetSl w xs e w' := by
  obtain ⟨v, rfl, hown, hbel⟩ := h
  obtain ⟨A, c, rfl, ho⟩ := OwnAt.of_owns hown
  exact ⟨A, _, c, rfl, ho, hbel⟩
def depR (ts : List Blk) (b : Int) : Int := if okK ts b then (dep ts b.toNat : Nat) else 0
def twoV (a : Int) (b : Bool) : Value := .tuple #[.int .i64 a, .bool b]
end Go.Proofs.Ytidlelkckkidbab
