/- What is proved here: what the program's functions on cells that only read return: widthAt, sumOfFirst, sumBetween, areWeights, weightsIn. No conditions but the cells' number. -/
import Derived.Test.YtlobjfipefibaabFen
import Derived.Test.YtlobjfipefibaabOwn
import Derived.ScopeJumps
import Derived.WalkMore
namespace Go.Proofs.Ytlobjfipefibaab
open Go.RowKit

theorem and_low : ∀ n : Nat, n < 65 → bits .and .i64 (n : Int) (-(n : Int)) = ((low n : Nat) : Int) := by decide +kernel

theorem width_any (n : Nat) (w : World) (h : n ≤ 64) :
    Calls Try.prog 211 #[.int .i64 n] w fun e w' => e = .returned (.int .i64 (low n)) ∧ w = w' := by
  have ha := Lib.hid (and_low n (by omega))
  go_enter Try.func211, Try.ntmps211
  go_wp2
  go_ret
  exact ⟨ret_int ha.out, rfl⟩

theorem wrap_add (a b : Int) : wrap64 (wrap64 a + b) = wrap64 (a + b) := by unfold wrap64; omega
theorem wrap_sub2 (a b : Int) : wrap64 (wrap64 a - wrap64 b) = wrap64 (a - b) := by unfold wrap64; omega

set_option maxRecDepth 100000 in
set_option maxHeartbeats 400000 in
theorem sumFirst_any (A : Option Addr) (len c B : Nat) (xs : List Int) (n : Nat) (w : World) (h : IntsAt w B A len xs) (hn : n ≤ len) (hl : len ≤ 32) :
    Calls Try.prog 212 #[.slice A len c, .int .i64 n] w fun e w' => e = .returned (.int .i64 (wrap64 (fs xs n))) ∧ w = w' := by
  have hr := Lib.hid h; clear h
  go_enter Try.func212, Try.ntmps212
  go_wp2
  refine wp_scope_jumps 0 (fun a' w' => w' = w ∧ ∃ (m : Nat) (acc : Int) (u6 u7 u8 u9 u10 u11 u12 u13 u14 u15 u16 u17 u18 : Value), a' = { tmps := #[.slice A len c, .int .i64 m, undef, undef, .int .i64 0, .int .i64 acc, u6, u7, u8, u9, u10, u11, u12, u13, u14, u15, u16, u17, u18, undef], defers := [] } ∧ acc = wrap64 (fs xs n - fs xs m) ∧ m ≤ n) (fun a' _ => (intOf (a'.tmps.getD 1 undef)).toNat) rfl ?_ ?_
  · go_wp2
    go_step3
    by_cases h0 : 0 < n
    · obtain ⟨b, off, rfl, _, hc⟩ := hr.out.2 (n - 1) (by omega)
      have h1 := low_pos h0 (by omega)
      have h2 := low_le h0 (by omega)
      have hs := Lib.hid (fs_step xs h0 (by omega))
      go_wp2_with fail
      refine (width_any n _ (by omega)).mono ?_
      rintro e w' ⟨rfl, rfl⟩
      go_wp2_with fail
      go_step3
      have e1 : (n : Int) - (low n : Nat) = ((n - low n : Nat) : Int) := by omega
      rw [e1]
      refine ⟨rfl, rfl, n - low n, _, _, _, _, _, _, _, _, _, _, _, _, _, _, rfl, ?_, by omega⟩
      rw [hs.out]
      congr 1; omega
    · go_wp2
      simp only [Exit.jump]
      go_ret
      have hz : n = 0 := by omega
      subst hz
      exact ⟨ret_int (by rw [fs_zero]; unfold wrap64; omega), rfl⟩
  · rintro a' w' ⟨rfl, m, acc, u6, u7, u8, u9, u10, u11, u12, u13, u14, u15, u16, u17, u18, rfl, hs, hm⟩
    have hacc := Lib.hid hs; clear hs
    by_cases h0 : 0 < m
    · obtain ⟨b, off, rfl, _, hc⟩ := hr.out.2 (m - 1) (by omega)
      have h1 := low_pos h0 (by omega)
      have h2 := low_le h0 (by omega)
      have hs := Lib.hid (fs_step xs h0 (by omega))
      go_wp2_with fail
      refine (width_any m _ (by omega)).mono ?_
      rintro e w' ⟨rfl, rfl⟩
      go_wp2_with fail
      go_step3
      have e1 : (m : Int) - (low m : Nat) = ((m - low m : Nat) : Int) := by omega
      rw [e1]
      refine ⟨rfl, ⟨rfl, m - low m, _, _, _, _, _, _, _, _, _, _, _, _, _, _, rfl, ?_, by omega⟩, ?_⟩
      · rw [hacc.out, wrap_add, hs.out]
        congr 1; omega
      · simp [intOf]; omega
    · go_wp2
      simp only [Exit.jump]
      go_ret
      have hz : m = 0 := by omega
      subst hz
      exact ⟨ret_int (by rw [hacc.out, fs_zero, Int.sub_zero]), rfl⟩

theorem sumBetween_any (A : Option Addr) (len c B : Nat) (xs : List Int) (a b : Nat) (w : World) (h : IntsAt w B A len xs) (ha : a ≤ len) (hb : b ≤ len) (hl : len ≤ 32) :
    Calls Try.prog 168 #[.slice A len c, .int .i64 a, .int .i64 b] w fun e w' => e = .returned (.int .i64 (wrap64 (fs xs b - fs xs a))) ∧ w = w' := by
  have hr := Lib.hid h; clear h
  go_enter Try.func168, Try.ntmps168
  go_wp2_with fail
  refine (sumFirst_any A len c B xs b _ hr.out hb hl).mono ?_
  rintro e w' ⟨rfl, rfl⟩
  go_wp2_with fail
  refine (sumFirst_any A len c B xs a _ hr.out ha hl).mono ?_
  rintro e w' ⟨rfl, rfl⟩
  go_wp2_with fail
  go_ret
  exact ⟨ret_int (wrap_sub2 _ _), rfl⟩

set_option maxHeartbeats 400000 in
theorem areWeights_any (A : Option Addr) (n c B : Nat) (xs : List Int) (w : World) (h : IntsAt w B A n xs) (hn : n ≤ 1048576) :
    Calls Try.prog 162 #[.slice A n c] w fun e w' => e = .returned (.bool (goodW xs)) ∧ w = w' := by
  have hl := h.1
  by_cases h1 : n < 1
  · have hg : goodW xs = false := by unfold goodW; rw [inB_low (by omega)]; rfl
    have hg' := Lib.hid hg; clear hg hl
    go_enter Try.func162, Try.ntmps162
    go_wp2
    go_ret
    exact ⟨ret_bool hg'.out.symm, rfl⟩
  · by_cases h2 : 32 < n
    · have hg : goodW xs = false := by unfold goodW; rw [inB_high (by omega)]; rfl
      have hg' := Lib.hid hg; clear hg hl
      go_enter Try.func162, Try.ntmps162
      go_wp2
      go_ret
      exact ⟨ret_bool hg'.out.symm, rfl⟩
    · have hin : inB xs.length 1 32 = true := inB_true (by omega) (by omega)
      have hin' := Lib.hid hin; clear hin
      have hl' := Lib.hid hl; clear hl
      have hr := Lib.hid h; clear h
      go_enter Try.func162, Try.ntmps162
      go_wp2
      go_loop [15] (fun i => ∃ k : Nat, k ≤ n ∧ i = .int .i64 k ∧ allB (xs.take k) 0 100000 = true) (fun i => n - (intOf i).toNat)
      case atStart => exact ⟨0, Nat.zero_le _, rfl, allB_nil _ _⟩
      case round =>
        obtain ⟨k, hk, rfl, hall⟩ := hrel
        have hall' := Lib.hid hall; clear hall
        by_cases hlt : k < n
        · obtain ⟨b, off, rfl, _, hc⟩ := hr.out.2 k hlt
          by_cases g1 : xs[k]?.getD 0 < 0
          · go_wp2
            go_ret
            exact ⟨ret_bool (by unfold goodW; rw [allB_no (by rw [hl'.out]; exact hlt) (inB_low g1)]; simp), rfl⟩
          · by_cases g2 : 100000 < xs[k]?.getD 0
            · go_wp2
              go_ret
              exact ⟨ret_bool (by unfold goodW; rw [allB_no (by rw [hl'.out]; exact hlt) (inB_high g2)]; simp), rfl⟩
            · go_wp2
              go_round
              case rel => exact ⟨k + 1, by omega, by go_num, allB_step (by rw [hl'.out]; exact hlt) hall'.out (inB_true (by omega) (by omega))⟩
              case measure => simp [intOf]; omega
        · go_wp2
          go_ret
          exact ⟨ret_bool (by unfold goodW; rw [hin'.out, allB_end (by rw [hl'.out]; omega) hall'.out]; rfl), rfl⟩

set_option maxHeartbeats 800000 in
theorem weightsIn_any (A : Option Addr) (n c : Nat) (xs : List Int) (w : World) (h : IntsAt w w.heap.size A n xs) (hn : n ≤ 32) :
    Calls Try.prog 166 #[.slice A n c] w fun e w' => e = .returned (.slice (some ⟨w.heap.size, 0, none⟩) n n) ∧
      w'.rowIs w.heap.size 3 n (fun i => .int .i64 ((wtsW xs)[i]?.getD 0)) ∧ Below w.heap.size w w' ∧ w.heap.size < w'.heap.size := by
  have hl' := Lib.hid h.1
  have hr := Lib.hid h; clear h
  have hmk := fun W => run_make_row' (P := Try.prog) 24 3 (.int .i64 0) 8 Try.underlying24 info3 rfl .i64 .i64 n (by omega) (by omega) W
  go_enter Try.func166, Try.ntmps166
  go_wp2
  go_loopw [10] (fun i wr => ∃ k : Nat, k ≤ n ∧ i = .int .i64 k ∧ wr.rowIs w.heap.size 3 n (fun j => if j < k then .int .i64 ((wtsW xs)[j]?.getD 0) else .int .i64 0) ∧ Below w.heap.size w wr ∧ w.heap.size < wr.heap.size) (fun i _ => n - (intOf i).toNat)
  case atStart => exact ⟨0, Nat.zero_le _, rfl, (World.rowIs_made w (.int .i64 0) n 3).congr (by intro i hi; simp), (Below.refl _ _).alloc (Nat.le_refl _) _, by simp⟩
  case round =>
    obtain ⟨k, hk, rfl, hrow, hbel, hsz⟩ := hrel
    by_cases hlt : k < n
    · have hd := hrow.cell hlt
      have hf := hrow.frozen k
      have hg := Lib.hid (wtsW_get (c := xs) (k := k) (by rw [hl'.out]; exact hlt))
      have hr2 := Lib.hid (hr.out.below hbel)
      have hrow' := Lib.hid hrow; clear hrow
      have hbel' := Lib.hid hbel; clear hbel
      go_wp2_with fail
      refine (sumBetween_any A n c w.heap.size xs k (k + 1) _ hr2.out (by omega) (by omega) hn).mono ?_
      rintro e w' ⟨rfl, rfl⟩
      go_wp2_with fail
      go_roundw
      case rel =>
        refine ⟨k + 1, by omega, by go_num, (hrow'.out.set k _).congr ?_, hbel'.out.setCell (by simp) _, by simpa using hsz⟩
        intro j hj
        by_cases e : j = k
        · subst e; simp; rw [hg.out]; rfl
        · simp [e]; by_cases e2 : j < k
          · simp [e2, show j < k + 1 by omega]
          · simp [e2, show ¬ j < k + 1 by omega]
      case measure => simp [intOf]; omega
    · have hrow' := Lib.hid hrow; clear hrow
      go_wp2
      go_ret
      exact ⟨rfl, hrow'.out.congr (by intro j hj; simp [show j < k by omega]), hbel, hsz⟩
end Go.Proofs.Ytlobjfipefibaab
