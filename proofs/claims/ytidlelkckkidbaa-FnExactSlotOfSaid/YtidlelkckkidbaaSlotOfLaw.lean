/- What is proved here: the law on SlotOf returns true at every two integers, and writes nothing that was there. No conditions. -/
import Derived.Test.YtidlelkckkidbaaWalksA
namespace Go.Proofs.Ytidlelkckkidbaa
open Go.RowKit

theorem specDelta_any (d : Int) (w : World) :
    Calls Try.prog 70 #[.int .i64 d] w fun e w' => e = .returned (.bool (inB d 1 10)) ∧ w = w' := by
  go_enter Try.func70, Try.ntmps70
  go_wp2_with (go_at_call 60; refine (l1In_any _ _ _ _).mono ?_; rintro e w' ⟨rfl, rfl⟩)
  go_ret
  exact ⟨rfl, rfl⟩
theorem implDelta_any (n : Int) (w : World) :
    Calls Try.prog 71 #[.int .i64 n] w fun e w' => e = .returned (.bool (inB n 1 10)) ∧ w = w' := by
  by_cases h1 : 1 ≤ n
  · by_cases h2 : n ≤ 10
    · go_enter Try.func71, Try.ntmps71
      go_wp2
      go_ret
      exact ⟨ret_bool (inB_true h1 h2).symm, rfl⟩
    · go_enter Try.func71, Try.ntmps71
      go_wp2
      go_ret
      exact ⟨ret_bool (inB_high (by omega)).symm, rfl⟩
  · go_enter Try.func71, Try.ntmps71
    go_wp2
    go_ret
    exact ⟨ret_bool (inB_low (by omega)).symm, rfl⟩

theorem slotLength_any (d : Int) (h1 : 1 ≤ d) (h2 : d ≤ 10) (w : World) :
    Calls Try.prog 72 #[.int .i64 d] w fun e w' => e = .returned (.int .i64 (4 * d)) ∧ w = w' := by
  go_enter Try.func72, Try.ntmps72
  go_wp2
  go_ret
  exact ⟨rfl, rfl⟩

/-- SlotOf, as the document says it. -/
def slotB (t d : Int) : Bool := inB t 0 100000 && inB d 1 10
def slotR (t d : Int) : Int := if slotB t d then t / (4 * d) else 0
def phaseR (t d : Int) : Int := if slotB t d then t / d % 4 else 0
theorem phase_eq {t d : Int} (ht : 0 ≤ t) (hd : 1 ≤ d) : t % (4 * d) / d = t / d % 4 := by
  obtain ⟨n, rfl⟩ := Int.eq_ofNat_of_zero_le ht
  obtain ⟨m, rfl⟩ := Int.eq_ofNat_of_zero_le (show 0 ≤ d by omega)
  show ((((n % (4 * m)) / m : Nat)) : Int) = (((n / m) % 4 : Nat) : Int)
  rw [Nat.mul_comm, Nat.mod_mul_right_div_self]
theorem tmod_nn {a b : Int} (h : 0 ≤ a) : a.tmod b = a % b := Int.tmod_eq_emod_of_nonneg h
theorem tdiv_nn {a b : Int} (h : 0 ≤ a) : a.tdiv b = a / b := Int.tdiv_eq_ediv_of_nonneg h
def Three (a b : Int) (c : Bool) (e : Ending) : Prop := e = .returned (.tuple #[.int .i64 a, .int .i64 b, .bool c])
def SlotPost (w : World) (t d : Int) (e : Ending) (w' : World) : Prop := Three (slotR t d) (phaseR t d) (slotB t d) e ∧ ∃ m, w' = w.drewN m
theorem slotPost_no {t d : Int} {w : World} (h : slotB t d = false) : SlotPost w t d (.returned (.tuple #[.int .i64 0, .int .i64 0, .bool false])) w := by
  refine ⟨?_, 0, rfl⟩
  unfold Three slotR phaseR
  rw [h]; rfl
theorem slotPost_yes {t d a b : Int} {w : World} {m : Nat} (h : slotB t d = true) (ha : a = t / (4 * d)) (hb : b = t / d % 4) : SlotPost w t d (.returned (.tuple #[.int .i64 a, .int .i64 b, .bool true])) (w.drewN m) := by
  refine ⟨?_, m, rfl⟩
  unfold Three slotR phaseR
  rw [h, ha, hb]; rfl

theorem specSlot_any (t d : Int) (w : World) :
    Calls Try.prog 39 #[.int .i64 t, .int .i64 d] w (SlotPost w t d) := by
  cases h1 : inB t 0 100000
  · have hN := Lib.hid (slotPost_no (w := w) (show slotB t d = false by unfold slotB; rw [h1]; rfl))
    go_enter Try.func39, Try.ntmps39
    go_wp2_with (go_at_call 60; refine (l1In_any _ _ _ _).mono ?_; rintro e w' ⟨rfl, rfl⟩)
    go_ret3
    exact hN.out
  · cases h2 : inB d 1 10
    · have hN := Lib.hid (slotPost_no (w := w) (show slotB t d = false by unfold slotB; rw [h1, h2]; rfl))
      go_enter Try.func39, Try.ntmps39
      go_wp2_with (first
        | (go_at_call 60; refine (l1In_any _ _ _ _).mono ?_; rintro e w' ⟨rfl, rfl⟩)
        | (go_at_call 70; refine (specDelta_any _ _).mono ?_; rintro e w' ⟨rfl, rfl⟩))
      go_ret3
      exact hN.out
    · have hY := Lib.hid (fun (a b : Int) (m : Nat) => slotPost_yes (a := a) (b := b) (w := w) (m := m) (show slotB t d = true by unfold slotB; rw [h1, h2]; rfl))
      obtain ⟨a1, a2⟩ := inB_iff.1 h1
      obtain ⟨b1, b2⟩ := inB_iff.1 h2
      go_enter Try.func39, Try.ntmps39
      go_wp2_with (first
        | (go_at_call 60; refine (l1In_any _ _ _ _).mono ?_; rintro e w' ⟨rfl, rfl⟩)
        | (go_at_call 70; refine (specDelta_any _ _).mono ?_; rintro e w' ⟨rfl, rfl⟩))
      go_quiet (fail)
      go_wp2
      go_ret3
      exact hY.out _ _ _ rfl (tmod_nn (Int.ediv_nonneg a1 (by omega)))

theorem implSlot_any (t d : Int) (w : World) :
    Calls Try.prog 40 #[.int .i64 t, .int .i64 d] w (SlotPost w t d) := by
  by_cases h0 : 0 ≤ t
  · by_cases h1 : t ≤ 100000
    · cases h2 : inB d 1 10
      · have hN := Lib.hid (slotPost_no (w := w) (show slotB t d = false by unfold slotB; rw [inB_true h0 h1, h2]; rfl))
        go_enter Try.func40, Try.ntmps40
        go_wp2_with (go_at_call 71; refine (implDelta_any _ _).mono ?_; rintro e w' ⟨rfl, rfl⟩)
        go_ret3
        exact hN.out
      · have hY := Lib.hid (fun (a b : Int) (m : Nat) => slotPost_yes (a := a) (b := b) (w := w) (m := m) (show slotB t d = true by unfold slotB; rw [inB_true h0 h1, h2]; rfl))
        obtain ⟨b1, b2⟩ := inB_iff.1 h2
        go_enter Try.func40, Try.ntmps40
        go_wp2_with (first
          | (go_at_call 71; refine (implDelta_any _ _).mono ?_; rintro e w' ⟨rfl, rfl⟩)
          | (go_at_call 72; refine (slotLength_any _ b1 b2 _).mono ?_; rintro e w' ⟨rfl, rfl⟩))
        go_quiet (fail)
        go_wp2
        go_ret3
        refine hY.out _ _ _ rfl ?_
        have g0 : 0 ≤ t % (4 * d) := Int.emod_nonneg _ (by omega)
        have g1 : t % (4 * d) < 4 * d := Int.emod_lt_of_pos _ (by omega)
        have g2 : 0 ≤ t / d % 4 := Int.emod_nonneg _ (by omega)
        have g3 : t / d % 4 < 4 := Int.emod_lt_of_pos _ (by omega)
        rw [tdiv_nn g0, phase_eq h0 b1]
        generalize t / d % 4 = z at g2 g3 ⊢
        unfold wrap64; omega
    · have hN := Lib.hid (slotPost_no (w := w) (show slotB t d = false by unfold slotB; rw [inB_high (by omega)]; rfl))
      go_enter Try.func40, Try.ntmps40
      go_wp2_with fail
      go_ret3
      exact hN.out
  · have hN := Lib.hid (slotPost_no (w := w) (show slotB t d = false by unfold slotB; rw [inB_low (by omega)]; rfl))
    go_enter Try.func40, Try.ntmps40
    go_wp2_with fail
    go_ret3
    exact hN.out

theorem lawSlotOf (t d : Int) (w : World) :
    Calls Try.prog 5 #[.int .i64 t, .int .i64 d] w fun e w' => e = .returned (.bool true) ∧ Grown w w' := by
  have hq1 : (slotR t d != slotR t d) = false := by simp
  have hq2 : (phaseR t d != phaseR t d) = false := by simp
  have hq3 : (slotB t d != slotB t d) = false := by simp
  go_enter Try.func5, Try.ntmps5
  go_wp2_with (first
    | (go_at_call 39; refine (specSlot_any _ _ _).mono ?_; rintro e w' ⟨rfl, m, rfl⟩)
    | (go_at_call 40; refine (implSlot_any _ _ _).mono ?_; rintro e w' ⟨rfl, m, rfl⟩))
  go_ret
  exact ⟨rfl, Grown.refl w⟩
end Go.Proofs.Ytidlelkckkidbaa
