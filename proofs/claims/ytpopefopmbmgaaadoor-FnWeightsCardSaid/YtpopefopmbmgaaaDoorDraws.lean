/- What is proved here: what the model's draws of stakes and groups make: new slices of few numbers, and nothing else changes but the cursor's own block. No conditions beside that the cursor is one. -/
import Derived.Test.YtpopefopmbmgaaaDoorCursor
namespace Go.Proofs.YtpopefopmbmgaaaDoor
open Go.RowKit

def GroupPost (w : World) (g B lim : Nat) (many : Int) (e : Ending) (w' : World) : Prop :=
  ∃ A n c xs, e = .returned (.slice A n c) ∧ OwnAt w' w.heap.size A n xs ∧ (n : Int) ≤ many ∧ CurOk w' g B (lim + 2000) ∧ Grew g w.heap.size w w'

set_option maxHeartbeats 1600000 in
set_option maxRecDepth 100000 in
theorem group_any (g B lim : Nat) (many : Int) (w : World) (h : CurOk w g B lim) (hB : B ≤ w.heap.size) (hlim : lim ≤ 274877906944) (h0 : 0 ≤ many) (h1 : many ≤ 1000) :
    Calls Tryd.prog 56 #[.pointer (some ⟨g, 0, none⟩), .int .i64 many] w (GroupPost w g B lim many) := by
  obtain ⟨i0, hi0, hz0, hz1, hz2⟩ := info_parts info3
  have hgB := h.1
  have h' := Lib.hid h; clear h
  go_enter Tryd.func56, Tryd.ntmps56
  go_wp2
  go_loopw [5, 6] (fun v i wr => ∃ (k : Nat) (xs : List Int), (k : Int) ≤ many ∧ i = .int .i64 k ∧ wr.ownsRow w.heap.size 3 1 v xs.length (xs.map (Value.int .i64)) ∧ xs.length ≤ k ∧ CurOk wr g B (lim + 2 * k) ∧ Grew g w.heap.size w wr) (fun _ i _ => (many - intOf i).toNat)
  case atStart => exact ⟨0, [], h0, rfl, World.ownsRow_nil _ _ _ _, Nat.le_refl _, h'.out, Grew.refl _ _ _⟩
  case round =>
    obtain ⟨k, xs, hk, rfl, hown, hlen, hcur, hgrew⟩ := hrel
    by_cases hlt : (k : Int) < many
    · have hown' := Lib.hid hown; clear hown
      go_wp2_with fail
      refine (one_any g B (lim + 2 * k) 3 wr hcur (by omega) (by decide)).mono ?_
      rintro e w1 ⟨b, rfl, c1, o1⟩
      have own1 : w1.ownsRow w.heap.size 3 1 _ xs.length (xs.map (Value.int .i64)) := hown'.out.kept (row := some g) ⟨o1.os, o1.tape, o1.output, by rw [o1.size]; exact Nat.le_refl _, fun i _ hi => o1.block i (fun ad e => by cases e; exact fun he => hi (by rw [he]))⟩ (by
        rcases hq : Value.ownBlock _ with _ | q
        · exact .inl rfl
        · right; have := (hown'.out.lt q hq).1; intro e; cases e; omega)
      have grew1 : Grew g w.heap.size w w1 := hgrew.trans (Grew.of_only o1)
      have hs1 : w.heap.size ≤ w1.heap.size := grew1.size
      clear o1 hown' hgrew hcur
      cases b
      · go_wp2_with (at_builtin; refine wpList_append_own _ rfl _ _ 23 rfl w.heap.size 3 i0 (.int .i64 0) 1 8 Tryd.underlying23 hi0 hz0 hz1 hz2 rfl (by decide) _ _ _ rfl (own1.alloc _) ⟨w1.heap.size, 0, none⟩ 1 1 [.int .i64 (k : Int)] rfl rfl ?c1 ?c2 ?c3 ?c4 ?c5 ?_)
        case c1 =>
          intro j u hj
          match j, hj with
          | 0, hj => simp at hj; subst hj; simp [Addr.add]
        case c2 => intro u hu; simp at hu; subst hu; rfl
        case c3 => unfold maxLen; omega
        case c4 => omega
        case c5 => simp; omega
        intro v' w2 own2 hgrow _
        have bel2 : Below w.heap.size w1 w2 := ((Below.refl _ _).alloc hs1 _).grown hgrow (by simp; omega) (fun q hq => (own1.lt q hq).1)
        have own2' := Lib.hid own2
        have c2 : CurOk w2 g B (lim + 2 * k + 2) := c1.below (bel2.mono hB)
        have grew2 := grew1.trans (Grew.of_below bel2)
        clear own2 hgrow own1 c1 grew1
        go_wp2
        go_roundw
        case rel =>
          refine ⟨k + 1, xs ++ [(k : Int)], by omega, by go_num, ?_, by simp; omega, c2, grew2⟩
          have := own2'.out
          simpa using this
        case measure => simp [intOf]; omega
      · have own1' := Lib.hid own1; clear own1
        go_wp2
        go_roundw
        case rel => exact ⟨k + 1, xs, by omega, by go_num, own1'.out, by omega, c1, grew1⟩
        case measure => simp [intOf]; omega
    · obtain ⟨A, c, rfl, hoa⟩ := OwnAt.of_owns hown
      have hoa' := Lib.hid hoa
      clear hown hoa
      go_wp2
      go_ret
      exact ⟨A, _, c, xs, rfl, hoa'.out, by omega, hcur.more (by omega), hgrew⟩

def StakesPost (w : World) (g B lim : Nat) (e : Ending) (w' : World) : Prop :=
  ∃ A n c xs, e = .returned (.slice A n c) ∧ OwnAt w' w.heap.size A n xs ∧ n ≤ 11 ∧ n ≤ c ∧ c ≤ maxLen ∧ CurOk w' g B (lim + 100) ∧ Grew g w.heap.size w w'
/-- Numbers of 0..1001. -/
def Small (xs : List Int) : Prop := ∀ k, k < xs.length → 0 ≤ xs[k]?.getD 0 ∧ xs[k]?.getD 0 ≤ 1001
theorem small_nil : Small [] := fun _ hk => absurd hk (Nat.not_lt_zero _)
theorem small_add {xs : List Int} {x : Int} (h : Small xs) (h0 : 0 ≤ x) (h1 : x ≤ 1001) : Small (xs ++ [x]) := fun k hk => by
  rw [List.length_append] at hk
  by_cases e : k < xs.length
  · rw [List.getElem?_append_left e]; exact h k e
  · have : k = xs.length := by simp at hk; omega
    subst this; simp [h0, h1]
theorem small_set {xs : List Int} {x : Int} (h : Small xs) (h0 : 0 ≤ x) (h1 : x ≤ 1001) : Small (xs.set 0 x) := fun k hk => by
  rw [List.length_set] at hk
  by_cases e : k = 0
  · subst e
    cases xs with
    | nil => simp at hk
    | cons y ys => simp [h0, h1]
  · rw [List.getElem?_set_ne (by omega)]; exact h k hk
theorem three_bd {j : Nat} (_h : j < 3) : 0 ≤ ([0, 1000, 1001] : List Int)[j]?.getD 0 ∧ ([0, 1000, 1001] : List Int)[j]?.getD 0 ≤ 1001 := by
  have : j = 0 ∨ j = 1 ∨ j = 2 := by omega
  rcases this with rfl | rfl | rfl <;> simp
def StakesPost2 (w : World) (g B lim : Nat) (e : Ending) (w' : World) : Prop :=
  ∃ A n c xs, e = .returned (.slice A n c) ∧ OwnAt w' w.heap.size A n xs ∧ n ≤ 11 ∧ n ≤ c ∧ c ≤ maxLen ∧ CurOk w' g B (lim + 100) ∧ Grew g w.heap.size w w' ∧ Hid (Small xs)
end Go.Proofs.YtpopefopmbmgaaaDoor
