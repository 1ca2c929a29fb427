/- What is proved here: what WeightOf and IsGreat return, in the program and in the model, at every two slices of integers. No conditions. -/
import Derived.Test.YtpopefopmbmgaaaDoorWalksE
namespace Go.Proofs.YtpopefopmbmgaaaDoor
open Go.RowKit

theorem of_parts {s xs : List Int} {m : Nat} (hl : s.length = m) (h : ofB s xs = true) : Bds s ∧ Vot m xs ∧ m ≤ 10 := by
  unfold ofB at h
  rw [Bool.and_eq_true, hl] at h
  have := (goodB_iff.1 h.1).1
  exact ⟨bds_of_good h.1, vot_of_ris h.2, by omega⟩
theorem sumL_all {s : List Int} (h : Bds s) : 0 ≤ sumL s ∧ sumL s ≤ 1000 * s.length := by
  have := sumL_bd h s.length (Nat.le_refl _)
  rwa [List.take_length] at this

theorem specWeightOf_any (A A' : Option Addr) (m n c c' B : Nat) (s xs : List Int) (w : World) (hS : IntsAt w B A' m s) (h : IntsAt w B A n xs) (hn : n ≤ 1048576) (hm : m ≤ 1048576) :
    Calls Tryd.prog 14 #[.slice A' m c', .slice A n c] w fun e w' => e = .returned (.tuple #[.int .i64 (wOf s xs), .bool (ofB s xs)]) ∧ w = w' := by
  cases hg : ofB s xs
  · have hq := Lib.hid (show wOf s xs = 0 by unfold wOf; rw [hg]; rfl)
    go_enter Tryd.func14, Tryd.ntmps14
    go_wp2_with (go_at_call 42; refine (l1Of_any _ _ _ _ _ _ B s xs _ hS h hn hm).mono ?_; rintro e w' ⟨rfl, rfl⟩)
    go_ret2
    exact ⟨ret_two hq.out.symm rfl, rfl⟩
  · have hq := Lib.hid (show wOf s xs = wtL s xs by unfold wOf; rw [hg]; rfl)
    have hp := Lib.hid (of_parts hS.1 hg)
    go_enter Tryd.func14, Tryd.ntmps14
    go_wp2_with (first
      | (go_at_call 42; refine (l1Of_any _ _ _ _ _ _ B s xs _ hS h hn hm).mono ?_; rintro e w' ⟨rfl, rfl⟩)
      | (go_at_call 45; refine (specWeight_any _ _ _ _ _ _ B s xs _ hS h hn hm hp.out.1 hp.out.2.1).mono ?_; rintro e w' ⟨rfl, rfl⟩))
    go_ret2
    exact ⟨ret_two hq.out.symm rfl, rfl⟩

set_option maxHeartbeats 400000 in
theorem implWeightOf_any (A A' : Option Addr) (m n c c' B : Nat) (s xs : List Int) (w : World) (hS : IntsAt w B A' m s) (h : IntsAt w B A n xs) (hn : n ≤ 1048576) (hm : m ≤ 1048576) :
    Calls Tryd.prog 13 #[.slice A' m c', .slice A n c] w fun e w' => e = .returned (.tuple #[.int .i64 (wOf s xs), .bool (ofB s xs)]) ∧ w = w' := by
  cases hg : ofB s xs
  · have hq := Lib.hid (show wOf s xs = 0 by unfold wOf; rw [hg]; rfl)
    go_enter Tryd.func13, Tryd.ntmps13
    go_wp2_with (go_at_call 44; refine (isGroupOf_any _ _ _ _ _ _ B s xs _ hS h hn hm).mono ?_; rintro e w' ⟨rfl, rfl⟩)
    go_ret2
    exact ⟨ret_two hq.out.symm rfl, rfl⟩
  · have hq := Lib.hid (show wOf s xs = wtL s xs by unfold wOf; rw [hg]; rfl)
    have hp := Lib.hid (of_parts hS.1 hg)
    have hl' := Lib.hid h.1
    have hb' := Lib.hid (bds_stakesOf hp.out.1 (by rw [hS.1]; exact hp.out.2.1))
    go_enter Tryd.func13, Tryd.ntmps13
    go_wp2_with (go_at_call 44; refine (isGroupOf_any _ _ _ _ _ _ B s xs _ hS h hn hm).mono ?_; rintro e w' ⟨rfl, rfl⟩)
    have hr := Lib.hid h; clear h
    have hrS := Lib.hid hS; clear hS
    go_loop [6, 15] (fun t i => ∃ k : Nat, k ≤ n ∧ i = .int .i64 k ∧ t = .int .i64 (sumL ((stakesOf s xs).take k))) (fun _ i => n - (intOf i).toNat)
    case atStart => exact ⟨0, Nat.zero_le _, rfl, rfl⟩
    case round =>
      obtain ⟨k, hk, rfl, rfl⟩ := hrel
      by_cases hlt : k < n
      · obtain ⟨b, off, rfl, _, hc⟩ := hr.out.2 k hlt
        have hkx : k < xs.length := by rw [hl'.out]; exact hlt
        have hs := Lib.hid (sumL_step (s := stakesOf s xs) (k := k) (by rw [stakesOf_len]; exact hkx))
        obtain ⟨g1, g2⟩ := sumL_bd hb'.out k (by rw [stakesOf_len]; omega)
        obtain ⟨g3, g4⟩ := hb'.out k (by rw [stakesOf_len]; exact hkx)
        have he := Lib.hid (stakesOf_get s xs hkx)
        rw [he.out] at g3 g4
        obtain ⟨g5, g6⟩ := hp.out.2.1 k hkx
        obtain ⟨b', off', rfl, _, hc'⟩ := hrS.out.2 (xs[k]?.getD 0).toNat (by omega)
        clear hkx
        go_wp2
        go_round
        case rel => exact ⟨k + 1, by omega, by go_num, by rw [hs.out, he.out]⟩
        case measure => simp [intOf]; omega
      · go_wp2
        go_ret2
        exact ⟨ret_two ((sumL_end (by rw [stakesOf_len, hl'.out]; omega)).trans hq.out.symm) rfl, rfl⟩

theorem isQuorum_any (a t : Int) (w : World) (h1 : 0 ≤ a) (h2 : a ≤ 1048576000) (h3 : 0 ≤ t) (h4 : t ≤ 1048576000) :
    Calls Tryd.prog 40 #[.int .i64 a, .int .i64 t] w fun e w' => e = .returned (.bool (decide (2 * t ≤ 3 * a))) ∧ w = w' := by
  go_enter Tryd.func40, Tryd.ntmps40
  go_wp2
  go_ret
  exact ⟨rfl, rfl⟩

theorem wtL_bd {s xs : List Int} (h : Bds s) (hv : Vot s.length xs) : 0 ≤ wtL s xs ∧ wtL s xs ≤ 1000 * xs.length := by
  have := sumL_all (bds_stakesOf h hv)
  rwa [stakesOf_len] at this

theorem l1Great_any (A A' : Option Addr) (m n c c' B : Nat) (s xs : List Int) (w : World) (hS : IntsAt w B A' m s) (h : IntsAt w B A n xs) (hn : n ≤ 1048576) (hm : m ≤ 1048576) (hb : Bds s) (hv : Vot m xs) :
    Calls Tryd.prog 43 #[.slice A' m c', .slice A n c] w fun e w' => e = .returned (.bool (greatB s xs)) ∧ w = w' := by
  have hl' := h.1
  have hlS := hS.1
  obtain ⟨g1, g2⟩ := sumL_all hb
  obtain ⟨g3, g4⟩ := wtL_bd hb (xs := xs) (by rw [hlS]; exact hv)
  have g2' : sumL s ≤ 1048576000 := by rw [hlS] at g2; omega
  have g4' : wtL s xs ≤ 1048576000 := by rw [hl'] at g4; omega
  clear g2 g4 hl' hlS
  go_enter Tryd.func43, Tryd.ntmps43
  go_wp2_with (first
    | (go_at_call 45; refine (specWeight_any _ _ _ _ _ _ B s xs _ hS h hn hm hb hv).mono ?_; rintro e w' ⟨rfl, rfl⟩)
    | (go_at_call 51; refine (specSum_any _ _ _ B s _ hS hm hb).mono ?_; rintro e w' ⟨rfl, rfl⟩))
  go_ret
  exact ⟨rfl, rfl⟩

theorem specIsGreat_any (A A' : Option Addr) (m n c c' B : Nat) (s xs : List Int) (w : World) (hS : IntsAt w B A' m s) (h : IntsAt w B A n xs) (hn : n ≤ 1048576) (hm : m ≤ 1048576) :
    Calls Tryd.prog 12 #[.slice A' m c', .slice A n c] w fun e w' => e = .returned (.tuple #[.bool (gOf s xs), .bool (ofB s xs)]) ∧ w = w' := by
  cases hg : ofB s xs
  · have hq := Lib.hid (show gOf s xs = false by unfold gOf; rw [hg]; rfl)
    go_enter Tryd.func12, Tryd.ntmps12
    go_wp2_with (go_at_call 42; refine (l1Of_any _ _ _ _ _ _ B s xs _ hS h hn hm).mono ?_; rintro e w' ⟨rfl, rfl⟩)
    go_ret2
    exact ⟨ret_bools hq.out.symm rfl, rfl⟩
  · have hq := Lib.hid (show gOf s xs = greatB s xs by unfold gOf; rw [hg]; rfl)
    have hp := Lib.hid (of_parts hS.1 hg)
    go_enter Tryd.func12, Tryd.ntmps12
    go_wp2_with (first
      | (go_at_call 42; refine (l1Of_any _ _ _ _ _ _ B s xs _ hS h hn hm).mono ?_; rintro e w' ⟨rfl, rfl⟩)
      | (go_at_call 43; refine (l1Great_any _ _ _ _ _ _ B s xs _ hS h hn hm hp.out.1 hp.out.2.1).mono ?_; rintro e w' ⟨rfl, rfl⟩))
    go_ret2
    exact ⟨ret_bools hq.out.symm rfl, rfl⟩

theorem implIsGreat_any (A A' : Option Addr) (m n c c' B : Nat) (s xs : List Int) (w : World) (hS : IntsAt w B A' m s) (h : IntsAt w B A n xs) (hn : n ≤ 1048576) (hm : m ≤ 1048576) :
    Calls Tryd.prog 11 #[.slice A' m c', .slice A n c] w fun e w' => e = .returned (.tuple #[.bool (gOf s xs), .bool (ofB s xs)]) ∧ w = w' := by
  cases hg : ofB s xs
  · have hq := Lib.hid (show gOf s xs = false by unfold gOf; rw [hg]; rfl)
    go_enter Tryd.func11, Tryd.ntmps11
    go_wp2_with (go_at_call 13; refine (implWeightOf_any _ _ _ _ _ _ B s xs _ hS h hn hm).mono ?_; rintro e w' ⟨rfl, rfl⟩)
    go_ret2
    exact ⟨ret_bools hq.out.symm rfl, rfl⟩
  · have hq := Lib.hid (show gOf s xs = decide (2 * sumL s ≤ 3 * wOf s xs) by unfold gOf greatB wOf; rw [hg]; rfl)
    have hp := Lib.hid (of_parts hS.1 hg)
    have hlS := hS.1
    have hl' := h.1
    obtain ⟨g1, g2⟩ := sumL_all hp.out.1
    obtain ⟨g3, g4⟩ := wtL_bd hp.out.1 (xs := xs) (by rw [hlS]; exact hp.out.2.1)
    have g2' : sumL s ≤ 1048576000 := by rw [hlS] at g2; omega
    have g4' : wOf s xs ≤ 1048576000 := by unfold wOf; rw [hg, if_pos rfl]; rw [hl'] at g4; omega
    have g3' : 0 ≤ wOf s xs := by unfold wOf; rw [hg, if_pos rfl]; exact g3
    clear g2 g4 g3 hl' hlS
    go_enter Tryd.func11, Tryd.ntmps11
    go_wp2_with (first
      | (go_at_call 13; refine (implWeightOf_any _ _ _ _ _ _ B s xs _ hS h hn hm).mono ?_; rintro e w' ⟨rfl, rfl⟩)
      | (go_at_call 41; refine (implSum_any _ _ _ B s _ hS hm hp.out.1).mono ?_; rintro e w' ⟨rfl, rfl⟩)
      | (go_at_call 40; refine (isQuorum_any _ _ _ g3' g4' g1 g2').mono ?_; rintro e w' ⟨rfl, rfl⟩))
    go_ret2
    exact ⟨ret_bools hq.out.symm rfl, rfl⟩
end Go.Proofs.YtpopefopmbmgaaaDoor
