/- What is proved here: what the program's areVotes, compareVotes and GoodPool return. No conditions but lengths. -/
import Derived.Test.YtgdgajgfehjjdaaVoteFacts
import Derived.StillTailTactics
namespace Go.Proofs.Ytgdgajgfehjjdaa
open Go.RowKit

theorem isNaN_any (x : Int) (w : World) : Calls Try.prog 160 #[.int .i64 x] w fun e w' => e = .returned (.bool false) ∧ w' = w := by
  have hq : (x != x) = false := by simp
  go_enter Try.func160, Try.ntmps160
  go_wp2
  go_ret
  exact ⟨rfl, rfl⟩
theorem compareI_any (x y : Int) (w : World) : Calls Try.prog 143 #[.int .i64 x, .int .i64 y] w fun e w' => e = .returned (.int .i64 (cmpI x y)) ∧ w' = w := by
  by_cases h1 : x < y
  · have hr := Lib.hid (show cmpI x y = -1 from if_pos h1)
    go_enter Try.func143, Try.ntmps143
    go_wp2_with (go_at_call 160; refine (isNaN_any _ _).mono ?_; rintro e w' ⟨rfl, rfl⟩)
    go_ret
    exact ⟨ret_int hr.out.symm, rfl⟩
  · by_cases h2 : y < x
    · have hr := Lib.hid (show cmpI x y = 1 by unfold cmpI; rw [if_neg h1, if_pos h2])
      go_enter Try.func143, Try.ntmps143
      go_wp2_with (go_at_call 160; refine (isNaN_any _ _).mono ?_; rintro e w' ⟨rfl, rfl⟩)
      go_ret
      exact ⟨ret_int hr.out.symm, rfl⟩
    · have hr := Lib.hid (show cmpI x y = 0 by unfold cmpI; rw [if_neg h1, if_neg h2])
      go_enter Try.func143, Try.ntmps143
      go_wp2_with (go_at_call 160; refine (isNaN_any _ _).mono ?_; rintro e w' ⟨rfl, rfl⟩)
      go_ret
      exact ⟨ret_int hr.out.symm, rfl⟩

def or3 (x y z : Int) : Int := if x ≠ 0 then x else if y ≠ 0 then y else z
theorem or3_any (g : Nat) (x y z : Int) (w : World) (h0 : w.cell? ⟨g, 0, none⟩ = some (.int .i64 x)) (h1 : w.cell? ⟨g, 1, none⟩ = some (.int .i64 y)) (h2 : w.cell? ⟨g, 2, none⟩ = some (.int .i64 z)) :
    Calls Try.prog 142 #[.slice (some ⟨g, 0, none⟩) 3 3] w fun e w' => e = .returned (.int .i64 (or3 x y z)) ∧ w' = w := by
  have hc : ∀ k, k < 3 → w.cell? ⟨g, 0 + k, none⟩ = some (.int .i64 (if k = 0 then x else if k = 1 then y else z)) := fun k hk => by
    have : k = 0 ∨ k = 1 ∨ k = 2 := by omega
    rcases this with rfl | rfl | rfl <;> simp [h0, h1, h2]
  have hc' := Lib.hid hc
  clear hc h0 h1 h2
  go_enter Try.func142, Try.ntmps142
  go_wp2
  go_loop [5, 8] (fun _ i => ∃ k : Nat, k ≤ 3 ∧ i = .int .i64 k ∧ Hid (∀ j, j < k → (if j = 0 then x else if j = 1 then y else z) = 0)) (fun _ i => 3 - (intOf i).toNat)
  case atStart => exact ⟨0, by omega, rfl, Lib.hid (fun j hj => absurd hj (Nat.not_lt_zero _))⟩
  case round =>
    obtain ⟨k, hk, rfl, hall⟩ := hrel
    by_cases hlt : k < 3
    · have hck := hc'.out k hlt
      rw [Nat.zero_add] at hck
      obtain ⟨v, hv⟩ : ∃ v, (if k = 0 then x else if k = 1 then y else z) = v := ⟨_, rfl⟩
      rw [hv] at hck
      have hkI : (k : Int) < 3 := by omega
      have hv' := Lib.hid hv
      clear hv
      by_cases hz : v = 0
      · have hne : (v != 0) = false := by simp [hz]
        have hnext := Lib.hid (show ∀ j, j < k + 1 → (if j = 0 then x else if j = 1 then y else z) = 0 from fun j hj => by
          by_cases e : j = k
          · subst e; exact hv'.out.trans hz
          · exact hall.out j (by omega))
        clear hz
        go_wp2
        go_round
        case rel => exact ⟨k + 1, by omega, by go_num, hnext⟩
        case measure => simp [intOf]; omega
      · have hne : (v != 0) = true := by simp [hz]
        have hr := Lib.hid (show v = or3 x y z by
          unfold or3
          have h3 : k = 0 ∨ k = 1 ∨ k = 2 := by omega
          rcases h3 with rfl | rfl | rfl
          · have := hv'.out; simp at this; subst this; rw [if_pos hz]
          · have a0 := hall.out 0 (by omega); simp at a0
            have := hv'.out; simp at this; subst this
            rw [if_neg (by simp [a0]), if_pos hz]
          · have a0 := hall.out 0 (by omega); simp at a0
            have a1 := hall.out 1 (by omega); simp at a1
            have := hv'.out; simp at this; subst this
            rw [if_neg (by simp [a0]), if_neg (by simp [a1])])
        clear hz
        go_wp2
        go_ret
        exact ⟨ret_int hr.out, rfl⟩
    · have hk3 : k = 3 := by omega
      have hr := Lib.hid (show (0 : Int) = or3 x y z by
        unfold or3
        have a0 := hall.out 0 (by omega); simp at a0
        have a1 := hall.out 1 (by omega); simp at a1
        have a2 := hall.out 2 (by omega); simp at a2
        rw [if_neg (by simp [a0]), if_neg (by simp [a1]), a2])
      clear hk3
      go_wp2
      go_ret
      exact ⟨ret_int hr.out, rfl⟩

theorem cmpV_or (a b : Vt) : cmpV a b = or3 (cmpI a.1 b.1) (cmpI a.2.1 b.2.1) (cmpI a.2.2 b.2.2) := rfl
theorem row_three (w : World) (x y z : Int) : (w.alloc (.cells #[.int .i64 x, .int .i64 y, .int .i64 z] 3)).cell? ⟨w.heap.size, 0, none⟩ = some (.int .i64 x) ∧ (w.alloc (.cells #[.int .i64 x, .int .i64 y, .int .i64 z] 3)).cell? ⟨w.heap.size, 1, none⟩ = some (.int .i64 y) ∧ (w.alloc (.cells #[.int .i64 x, .int .i64 y, .int .i64 z] 3)).cell? ⟨w.heap.size, 2, none⟩ = some (.int .i64 z) := by
  have h : (w.alloc (.cells #[.int .i64 x, .int .i64 y, .int .i64 z] 3)).rowIs w.heap.size 3 3 (fun i => if i = 0 then .int .i64 x else if i = 1 then .int .i64 y else .int .i64 z) :=
    ⟨_, heap_alloc_new _ _, rfl, fun i hi => by
      have : i = 0 ∨ i = 1 ∨ i = 2 := by omega
      rcases this with rfl | rfl | rfl <;> rfl⟩
  exact ⟨h.cell (by omega), h.cell (by omega), h.cell (by omega)⟩

/-- Two structs of three numbers, boxed one after the other. -/
theorem two_boxes (w : World) (a1 a2 a3 b1 b2 b3 : Int) (t : TypeId) : ∃ W, (w.alloc (.cells #[.int .i64 a1, .int .i64 a2, .int .i64 a3] t)).alloc (.cells #[.int .i64 b1, .int .i64 b2, .int .i64 b3] t) = W ∧
    W.cell? ⟨w.heap.size, 0, none⟩ = some (.int .i64 a1) ∧ W.cell? ⟨w.heap.size, 1, none⟩ = some (.int .i64 a2) ∧ W.cell? ⟨w.heap.size, 2, none⟩ = some (.int .i64 a3) ∧
    W.cell? ⟨w.heap.size + 1, 0, none⟩ = some (.int .i64 b1) ∧ W.cell? ⟨w.heap.size + 1, 1, none⟩ = some (.int .i64 b2) ∧ W.cell? ⟨w.heap.size + 1, 2, none⟩ = some (.int .i64 b3) ∧ Below w.heap.size w W ∧ w.heap.size + 2 ≤ W.heap.size := by
  refine ⟨_, rfl, ?_⟩
  have hr1 : (w.alloc (.cells #[.int .i64 a1, .int .i64 a2, .int .i64 a3] t)).rowIs w.heap.size t 3 (fun i => if i = 0 then .int .i64 a1 else if i = 1 then .int .i64 a2 else .int .i64 a3) :=
    ⟨_, heap_alloc_new _ _, rfl, fun i hi => by
      have : i = 0 ∨ i = 1 ∨ i = 2 := by omega
      rcases this with rfl | rfl | rfl <;> rfl⟩
  have hb : Below (w.alloc (.cells #[.int .i64 a1, .int .i64 a2, .int .i64 a3] t)).heap.size (w.alloc (.cells #[.int .i64 a1, .int .i64 a2, .int .i64 a3] t)) ((w.alloc (.cells #[.int .i64 a1, .int .i64 a2, .int .i64 a3] t)).alloc (.cells #[.int .i64 b1, .int .i64 b2, .int .i64 b3] t)) := (Below.refl _ _).alloc (Nat.le_refl _) _
  have hr1' := rowIs_below hr1 hb (by simp)
  have hr2 : ((w.alloc (.cells #[.int .i64 a1, .int .i64 a2, .int .i64 a3] t)).alloc (.cells #[.int .i64 b1, .int .i64 b2, .int .i64 b3] t)).rowIs (w.heap.size + 1) t 3 (fun i => if i = 0 then .int .i64 b1 else if i = 1 then .int .i64 b2 else .int .i64 b3) :=
    ⟨_, by rw [show w.heap.size + 1 = (w.alloc (.cells #[.int .i64 a1, .int .i64 a2, .int .i64 a3] t)).heap.size by simp]; exact heap_alloc_new _ _, rfl, fun i hi => by
      have : i = 0 ∨ i = 1 ∨ i = 2 := by omega
      rcases this with rfl | rfl | rfl <;> rfl⟩
  exact ⟨hr1'.cell (by omega), hr1'.cell (by omega), hr1'.cell (by omega), hr2.cell (by omega), hr2.cell (by omega), hr2.cell (by omega), ((Below.refl w.heap.size w).alloc (Nat.le_refl _) _).alloc (by simp) _, by simp⟩

set_option maxRecDepth 100000 in
set_option maxHeartbeats 800000 in
theorem compareV_any (a1 a2 a3 b1 b2 b3 : Int) (w : World) : Calls Try.prog 98 #[.agg #[.int .i64 a1, .int .i64 a2, .int .i64 a3], .agg #[.int .i64 b1, .int .i64 b2, .int .i64 b3]] w fun e w' => e = .returned (.int .i64 (cmpV (a1, a2, a3) (b1, b2, b3))) ∧ Below w.heap.size w w' := by
  have hr := Lib.hid (cmpV_or (a1, a2, a3) (b1, b2, b3))
  obtain ⟨W, hW, c1, c2, c3, d1, d2, d3, hb, hs⟩ := two_boxes w a1 a2 a3 b1 b2 b3 60
  have hb' := Lib.hid hb
  have hW' := Lib.hid hW
  clear hb hW
  go_enter Try.func98, Try.ntmps98
  go_wp2_with fail
  rw [hW'.out]
  generalize w.heap.size + 1 = g2 at d1 d2 d3 hs ⊢
  generalize hg1 : w.heap.size = g1 at c1 c2 c3 hs hb' hW' ⊢
  have hg1' := Lib.hid hg1
  clear hg1
  go_still_tail 15, (by kernel_rfl)
  still_call (compareI_any _ _ _)
  repeat still_step
  still_call (compareI_any _ _ _)
  repeat still_step
  still_call (compareI_any _ _ _)
  repeat still_step
  try refine wpStill_nil ?_
  change wpList _ _ _ _ _ W.drew
  generalize hV : W.drew = V
  have hbV := Lib.hid (show Below g1 w V from by rw [← hV]; exact ⟨hb'.out.os, hb'.out.tape, hb'.out.output, hb'.out.size, hb'.out.block⟩)
  have hVs : g1 ≤ V.heap.size := by rw [← hV]; show g1 ≤ W.heap.size; omega
  obtain ⟨r0, r1, r2⟩ := row_three V (cmpI a1 b1) (cmpI a2 b2) (cmpI a3 b3)
  clear hV
  go_wp2_with fail
  refine (or3_any V.heap.size _ _ _ _ r0 r1 r2).mono ?_
  rintro e w' ⟨rfl, rfl⟩
  go_wp2_with fail
  go_ret
  exact ⟨ret_int hr.out.symm, by rw [hg1'.out]; exact hbV.out.alloc hVs _⟩
end Go.Proofs.Ytgdgajgfehjjdaa
