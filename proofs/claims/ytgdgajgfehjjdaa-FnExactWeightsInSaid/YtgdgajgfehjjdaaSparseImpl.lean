/- What is proved here: what the program's sparseRows returns. No conditions. -/
import Derived.Test.YtgdgajgfehjjdaaSparseSpec
namespace Go.Proofs.Ytgdgajgfehjjdaa
open Go.RowKit

theorem not_nil (ab ao n c : Nat) (w : World) : (binOp BinOp.eql 23 (.slice (some ⟨ab, ao, none⟩) n c) (.slice none 0 0)).run Try.prog w = .ok (.bool false) w := by kernel_rfl

set_option maxRecDepth 100000 in
theorem clone_any (ab ao n c B0 : Nat) (l : List Int) (w : World) (h : IntsAt w B0 (some ⟨ab, ao, none⟩) n l) (hB0 : B0 ≤ w.heap.size) (hn0 : 0 < n) (hn : n ≤ 1000) :
    Calls Try.prog 116 #[.slice (some ⟨ab, ao, none⟩) n c] w fun e w' => ∃ g c', e = .returned (.slice (some ⟨g, 0, none⟩) n c') ∧ OwnAt w' w.heap.size (some ⟨g, 0, none⟩) n l ∧ Below w.heap.size w w' := by
  obtain ⟨i0, hi, hz0, hz1, hz2⟩ := info_parts info3
  have hl := Lib.hid h.1
  have hab : ab < B0 := by obtain ⟨b', o', e, hb, _⟩ := h.2 0 hn0; cases e; exact hb
  have hcs' := Lib.hid (show ∀ j, j < n → w.cell? ⟨ab, ao + j, none⟩ = some (.int .i64 (l[j]?.getD 0)) from fun j hj => by
    obtain ⟨b', o', e, _, hc⟩ := h.2 j hj
    cases e; exact hc)
  have h0 := Lib.hid (World.ownsRow_made (base := w.heap.size) (e := 3) (size := 1) w #[] 0 (Nat.le_refl _) (by decide) rfl)
  have hne := not_nil ab ao n c
  clear h
  go_enter Try.func116, Try.ntmps116
  go_wp2_with (at_builtin; refine appendAll _ rfl _ _ 23 rfl w.heap.size i0 Try.underlying23 hi hz0 hz1 hz2 _ [] rfl ?k1 ab ao n c l hl.out hn0 rfl ?k2 ?k3 ?k4 ?k5)
  case k1 => exact h0.out
  case k2 => intro j hj; exact (((Below.refl w.heap.size w).alloc (Nat.le_refl _) _).cell (p := ⟨ab, ao + j, none⟩) (by show ab < w.heap.size; omega)).trans (hcs'.out j hj)
  case k3 => simp; omega
  case k4 => simp
  case k5 =>
    intro g c' w1 h1 h2 h3
    have b1 : Below w.heap.size w w1 := ((Below.refl w.heap.size w).alloc (Nat.le_refl _) _).grown h2 (by simp) (fun k e => by cases e; exact Nat.le_refl _)
    obtain ⟨A1, c1, e1, o1⟩ := OwnAt.of_owns h1
    have hA1 : A1 = some ⟨g, 0, none⟩ := by injection e1 with e1 _ _; exact e1.symm
    rw [hA1, hl.out] at o1
    have o1' := Lib.hid o1; have b1' := Lib.hid b1
    clear h1 h2 h3 b1 e1 hA1 o1 h0
    go_wp2_with fail
    go_ret
    exact ⟨g, c', by first | rfl | simp, o1'.out, b1'.out⟩
theorem minI_alt (x y : Int) : (if y < x then y else x) = minI x y := by unfold minI; split <;> split <;> omega
theorem wrap64_2 {P : Nat} (h : P ≤ 1000) : wrap64 (2 * (P : Int)) = 2 * (P : Int) := by unfold wrap64; omega

end Go.Proofs.Ytgdgajgfehjjdaa
