/- What is proved here: what the model's paths are, and DepthOf of the program and of the model. No conditions. -/
import Derived.Test.YtgdgajgfehjjdaaSteps
import Derived.Test.YtgdgajgfehjjdaaOwn
namespace Go.Proofs.Ytgdgajgfehjjdaa
open Go.RowKit

/-- The tree is valid and b is one of its blocks. -/
def okK (ts : List Blk) (b : Int) : Bool := goodT ts && inB b 0 (ts.length - 1)
theorem okK_iff {ts : List Blk} {b : Int} : okK ts b = true ↔ Tree ts ∧ ∃ k : Nat, b = k ∧ k < ts.length := by
  unfold okK
  rw [Bool.and_eq_true, goodT_iff, inB_iff]
  constructor
  · rintro ⟨h, h0, h1⟩
    exact ⟨h, b.toNat, by omega, by omega⟩
  · rintro ⟨h, k, rfl, hk⟩
    exact ⟨h, by omega, by omega⟩
theorem isBlock_ok (A : Option Addr) (n c : Nat) (ts : List Blk) (b : Int) (w : World) (h : BlksAt w w.heap.size A n ts) (hn : n ≤ 1048576) :
    Calls Try.prog 84 #[.slice A n c, .int .i64 b] w (UpPost w (.bool (okK ts b))) := by
  unfold okK; rw [h.1]; exact isBlock_any A n c ts b w h hn
def wayV (ts : List Blk) (k : Nat) : List Int := (way ts k).map fun (j : Nat) => (j : Int)
theorem wayV_len {ts : List Blk} (h : Tree ts) {k : Nat} (hk : k < ts.length) : (wayV ts k).length = dep ts k + 1 := by
  unfold wayV; rw [List.length_map, way_len h hk]
theorem wayV_root (ts : List Blk) : wayV ts 0 = [0] := rfl
theorem wayV_step {ts : List Blk} (h : Tree ts) {k : Nat} (hk : k < ts.length) (h0 : k ≠ 0) : wayV ts k = wayV ts (parN ts k) ++ [(k : Int)] := by
  unfold wayV; rw [way_step h hk h0]; simp
/-- A slice of the call's own, which holds xs. -/
def OwnPost (w : World) (xs : List Int) (e : Ending) (w' : World) : Prop :=
  ∃ v, e = .returned v ∧ w'.ownsRow w.heap.size 3 1 v xs.length (xs.map (Value.int .i64)) ∧ Below w.heap.size w w'

theorem wayNil_any (A : Option Addr) (n c : Nat) (w : World) :
    Calls Try.prog 158 #[.slice A n c, .int .i64 (-1)] w (OwnPost w []) := by
  go_enter Try.func158, Try.ntmps158
  go_wp2_with fail
  go_ret
  exact ⟨_, rfl, World.ownsRow_nil _ _ _ _, Below.refl _ _⟩

set_option maxHeartbeats 400000 in
theorem wayRoot_any (A : Option Addr) (n c : Nat) (ts : List Blk) (ht : Tree ts) (w : World) (hk : 0 < n) (h : BlksAt w w.heap.size A n ts) :
    Calls Try.prog 158 #[.slice A n c, .int .i64 0] w (OwnPost w (wayV ts 0)) := by
  obtain ⟨i0, hi0, hz0, hz1, hz2⟩ := info_parts info3
  obtain ⟨b, off, rfl, hb, hcs⟩ := h.at hk
  have d0 := (hcs 0 hk).1
  have hroot : (ts[0]?.getD (0, 0)).1 = -1 := ht.root
  rw [hroot, Nat.zero_mul, Nat.add_zero] at d0
  clear hroot hcs h
  go_enter Try.func158, Try.ntmps158
  go_wp2_with fail
  refine (wayNil_any _ _ _ _).mono ?_
  rintro e w1 ⟨v, rfl, hown, hbel⟩
  have hs1 := hbel.size
  go_wp2_with (at_builtin; refine wpList_append_own _ rfl _ _ 23 rfl w.heap.size 3 i0 (.int .i64 0) 1 8 Try.underlying23 hi0 hz0 hz1 hz2 rfl (by decide) _ _ _ rfl (hown.alloc _) ⟨w1.heap.size, 0, none⟩ 1 1 [.int .i64 0] rfl rfl ?c1 ?c2 ?c3 ?c4 ?c5 ?_)
  case c1 =>
    intro j u hj
    match j, hj with
    | 0, hj => simp at hj; subst hj; simp [Addr.add]
  case c2 => intro u hu; simp at hu; subst hu; rfl
  case c3 => unfold maxLen; simp
  case c4 => simp
  case c5 => simp; omega
  intro v' w2 hown1 hgrow _
  have hbel1 : Below w.heap.size w w2 := (hbel.alloc hbel.size _).grown hgrow (by simp; omega) (fun g hg => (hown.lt g hg).1)
  have hown1' := Lib.hid hown1; clear hown1 hgrow
  go_wp2_with fail
  go_ret
  refine ⟨_, rfl, ?_, hbel1⟩
  rw [wayV_root]
  simpa using hown1'.out

set_option maxRecDepth 100000 in
set_option maxHeartbeats 400000 in
theorem l3Way_any (A : Option Addr) (n c : Nat) (ts : List Blk) (hn : n ≤ 1048576) (ht : Tree ts) (f : Nat) : ∀ (k : Nat) (w : World), k ≤ f → k < n → BlksAt w w.heap.size A n ts →
    Calls Try.prog 158 #[.slice A n c, .int .i64 k] w (OwnPost w (wayV ts k)) := by
  induction f with
  | zero =>
    intro k w hf hk h
    have hk0 : k = 0 := by omega
    subst hk0
    exact wayRoot_any A n c ts ht w hk h
  | succ f ih =>
    intro k w hf hk h
    have hl := Lib.hid h.1
    by_cases hk0 : k = 0
    · subst hk0
      exact wayRoot_any A n c ts ht w hk h
    · obtain ⟨i0, hi0, hz0, hz1, hz2⟩ := info_parts info3
      have hu := ht.up (k := k) (by rw [hl.out]; exact hk) hk0
      obtain ⟨b, off, e, hb, hcs⟩ := h.at (by omega)
      have d0 := (hcs k hk).1
      rw [show (ts[k]?.getD (0, 0)).1 = (parN ts k : Int) from hu.1] at d0
      have hu2 := hu.2
      have hst := Lib.hid (wayV_step ht (k := k) (by rw [hl.out]; exact hk) hk0)
      have hwl := Lib.hid (wayV_len ht (k := parN ts k) (by rw [hl.out]; omega))
      have hdl := dep_le ht (k := parN ts k) (by rw [hl.out]; omega)
      have hih := Lib.hid (ih (parN ts k) w (by omega) (by omega) h)
      subst e
      clear hu hcs h ih
      go_enter Try.func158, Try.ntmps158
      go_wp2_with fail
      refine hih.out.mono ?_
      rintro e w1 ⟨v, rfl, hown, hbel⟩
      have hs1 := hbel.size
      go_wp2_with (at_builtin; refine wpList_append_own _ rfl _ _ 23 rfl w.heap.size 3 i0 (.int .i64 0) 1 8 Try.underlying23 hi0 hz0 hz1 hz2 rfl (by decide) _ _ _ rfl (hown.alloc _) ⟨w1.heap.size, 0, none⟩ 1 1 [.int .i64 (k : Int)] rfl rfl ?c1 ?c2 ?c3 ?c4 ?c5 ?_)
      case c1 =>
        intro j u hj
        match j, hj with
        | 0, hj => simp at hj; subst hj; simp [Addr.add]
      case c2 => intro u hu; simp at hu; subst hu; rfl
      case c3 => unfold maxLen; rw [hwl.out]; omega
      case c4 => rw [hwl.out]; omega
      case c5 => simp; omega
      intro v' w2 hown1 hgrow _
      have hbel1 : Below w.heap.size w w2 := (hbel.alloc hbel.size _).grown hgrow (by simp; omega) (fun g hg => (hown.lt g hg).1)
      have hown1' := Lib.hid hown1; clear hown1 hgrow hown
      go_wp2_with fail
      go_ret
      refine ⟨_, rfl, ?_, hbel1⟩
      rw [hst.out]
      simpa using hown1'.out

/-- What is known of a path in memory: its value, and that it reads so. -/
theorem OwnPost.sl {w w' : World} {xs : List Int} {e : Ending} (h : OwnPost w xs e w') : RetSl w xs e w' := by
  obtain ⟨v, rfl, hown, hbel⟩ := h
  obtain ⟨A, c, rfl, ho⟩ := OwnAt.of_owns hown
  exact ⟨A, _, c, rfl, ho, hbel⟩
theorem way_ok (A : Option Addr) (n c : Nat) (ts : List Blk) (k : Nat) (w : World) (h : BlksAt w w.heap.size A n ts) (hn : n ≤ 1048576) (ht : Tree ts) (hk : k < n) :
    Calls Try.prog 158 #[.slice A n c, .int .i64 k] w (RetSl w (wayV ts k)) :=
  (l3Way_any A n c ts hn ht k k w (Nat.le_refl _) hk h).mono fun _ _ h => h.sl

def depR (ts : List Blk) (b : Int) : Int := if okK ts b then (dep ts b.toNat : Nat) else 0
def twoV (a : Int) (b : Bool) : Value := .tuple #[.int .i64 a, .bool b]
end Go.Proofs.Ytgdgajgfehjjdaa
