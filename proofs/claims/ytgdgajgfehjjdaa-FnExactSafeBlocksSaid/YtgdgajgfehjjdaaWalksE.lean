/- What is proved here: what WeightOf and IsGreat return, in the program and in the model, at every two slices of integers. No conditions. -/
import Derived.Test.YtgdgajgfehjjdaaWalksD
namespace Go.Proofs.Ytgdgajgfehjjdaa
open Go.RowKit

theorem ret_two {a b : Int} {c d : Bool} (h : a = b) (h' : c = d) : Ending.returned (.tuple #[.int .i64 a, .bool c]) = .returned (.tuple #[.int .i64 b, .bool d]) := by rw [h, h']
theorem ret_bools {a b c d : Bool} (h : a = b) (h' : c = d) : Ending.returned (.tuple #[.bool a, .bool c]) = .returned (.tuple #[.bool b, .bool d]) := by rw [h, h']

def wOf (s who : List Int) : Int := if ofB s who = true then wtL s who else 0
def gOf (s who : List Int) : Bool := ofB s who && greatB s who

/-- Stakes that are good: their bounds, one by one. -/
def Bds (s : List Int) : Prop := ∀ k, k < s.length → 0 ≤ s[k]?.getD 0 ∧ s[k]?.getD 0 ≤ 1000
theorem bds_of_good {s : List Int} (h : goodB s = true) : Bds s := fun k hk => by
  have := allB_get (goodB_iff.1 h).2 hk; omega
/-- Some voters of some stakes. -/
def Vot (m : Nat) (who : List Int) : Prop := ∀ k, k < who.length → 0 ≤ who[k]?.getD 0 ∧ who[k]?.getD 0 < (m : Int)
theorem vot_of_ris {m : Nat} {who : List Int} (h : risB who 0 ((m : Int) - 1) = true) : Vot m who := fun k hk => by
  have := risB_in h hk; omega
theorem bds_stakesOf {s who : List Int} (h : Bds s) (hv : Vot s.length who) : Bds (stakesOf s who) := fun k hk => by
  rw [stakesOf_len] at hk
  rw [stakesOf_get s who hk]
  have := hv k hk
  exact h _ (by omega)

set_option maxHeartbeats 400000 in
theorem implSum_any (A : Option Addr) (n c B : Nat) (xs : List Int) (w : World) (h : IntsAt w B A n xs) (hn : n ≤ 1048576) (hb : Bds xs) :
    Calls Try.prog 110 #[.slice A n c] w fun e w' => e = .returned (.int .i64 (sumL xs)) ∧ w = w' := by
  have hl' := Lib.hid h.1
  have hr := Lib.hid h; clear h
  have hb' := Lib.hid hb; clear hb
  go_enter Try.func110, Try.ntmps110
  go_wp2
  go_loop [3, 8] (fun s i => ∃ k : Nat, k ≤ n ∧ i = .int .i64 k ∧ s = .int .i64 (sumL (xs.take k))) (fun _ i => n - (intOf i).toNat)
  case atStart => exact ⟨0, Nat.zero_le _, rfl, rfl⟩
  case round =>
    obtain ⟨k, hk, rfl, rfl⟩ := hrel
    by_cases hlt : k < n
    · obtain ⟨b, off, rfl, _, hc⟩ := hr.out.2 k hlt
      have hs := Lib.hid (sumL_step (s := xs) (k := k) (by rw [hl'.out]; exact hlt))
      obtain ⟨g1, g2⟩ := sumL_bd hb'.out k (by rw [hl'.out]; exact hk)
      obtain ⟨g3, g4⟩ := hb'.out k (by rw [hl'.out]; exact hlt)
      go_wp2
      go_round
      case rel => exact ⟨k + 1, by omega, by go_num, by rw [hs.out]⟩
      case measure => simp [intOf]; omega
    · go_wp2
      go_ret
      exact ⟨ret_int (sumL_end (by rw [hl'.out]; omega)), rfl⟩

set_option maxHeartbeats 400000 in
theorem specSum_any (A : Option Addr) (n c B : Nat) (xs : List Int) (w : World) (h : IntsAt w B A n xs) (hn : n ≤ 1048576) (hb : Bds xs) :
    Calls Try.prog 108 #[.slice A n c] w fun e w' => e = .returned (.int .i64 (sumL xs)) ∧ w = w' := by
  have hl' := Lib.hid h.1
  have hr := Lib.hid h; clear h
  have hb' := Lib.hid hb; clear hb
  go_enter Try.func108, Try.ntmps108
  go_wp2
  go_loop [3, 8] (fun s i => ∃ k : Nat, k ≤ n ∧ i = .int .i64 k ∧ s = .int .i64 (sumL (xs.take k))) (fun _ i => n - (intOf i).toNat)
  case atStart => exact ⟨0, Nat.zero_le _, rfl, rfl⟩
  case round =>
    obtain ⟨k, hk, rfl, rfl⟩ := hrel
    by_cases hlt : k < n
    · obtain ⟨b, off, rfl, _, hc⟩ := hr.out.2 k hlt
      have hs := Lib.hid (sumL_step (s := xs) (k := k) (by rw [hl'.out]; exact hlt))
      obtain ⟨g1, g2⟩ := sumL_bd hb'.out k (by rw [hl'.out]; exact hk)
      obtain ⟨g3, g4⟩ := hb'.out k (by rw [hl'.out]; exact hlt)
      go_wp2
      go_round
      case rel => exact ⟨k + 1, by omega, by go_num, by rw [hs.out]⟩
      case measure => simp [intOf]; omega
    · go_wp2
      go_ret
      exact ⟨ret_int (sumL_end (by rw [hl'.out]; omega)), rfl⟩

set_option maxHeartbeats 400000 in
theorem specWeight_any (A A' : Option Addr) (m n c c' B : Nat) (s xs : List Int) (w : World) (hS : IntsAt w B A' m s) (h : IntsAt w B A n xs) (hn : n ≤ 1048576) (_hm : m ≤ 1048576) (hb : Bds s) (hv : Vot m xs) :
    Calls Try.prog 107 #[.slice A' m c', .slice A n c] w fun e w' => e = .returned (.int .i64 (wtL s xs)) ∧ w = w' := by
  have hl' := Lib.hid h.1
  have hlS := Lib.hid hS.1
  have hr := Lib.hid h; clear h
  have hrS := Lib.hid hS; clear hS
  have hb' := Lib.hid (bds_stakesOf hb (by rw [hlS.out]; exact hv))
  have hv' := Lib.hid hv; clear hv hb
  go_enter Try.func107, Try.ntmps107
  go_wp2
  go_loop [5, 10] (fun t i => ∃ k : Nat, k ≤ n ∧ i = .int .i64 k ∧ t = .int .i64 (sumL ((stakesOf s xs).take k))) (fun _ i => n - (intOf i).toNat)
  case atStart => exact ⟨0, Nat.zero_le _, rfl, rfl⟩
  case round =>
    obtain ⟨k, hk, rfl, rfl⟩ := hrel
    by_cases hlt : k < n
    · obtain ⟨b, off, rfl, _, hc⟩ := hr.out.2 k hlt
      have hkx : k < xs.length := by rw [hl'.out]; exact hlt
      have hs := Lib.hid (sumL_step (s := stakesOf s xs) (k := k) (by rw [stakesOf_len]; exact hkx))
      obtain ⟨g1, g2⟩ := sumL_bd hb'.out k (by rw [stakesOf_len]; omega)
      obtain ⟨g3, g4⟩ := hb'.out k (by rw [stakesOf_len]; exact hkx)
      have he := Lib.hid (stakesOf_get s xs hkx)
      rw [he.out] at g3 g4
      obtain ⟨g5, g6⟩ := hv'.out k hkx
      obtain ⟨b', off', rfl, _, hc'⟩ := hrS.out.2 (xs[k]?.getD 0).toNat (by omega)
      clear hkx
      go_wp2
      go_round
      case rel => exact ⟨k + 1, by omega, by go_num, by rw [hs.out, he.out]⟩
      case measure => simp [intOf]; omega
    · go_wp2
      go_ret
      exact ⟨ret_int (sumL_end (by rw [stakesOf_len, hl'.out]; omega)), rfl⟩

theorem isGroupOf_any (A A' : Option Addr) (m n c c' B : Nat) (s xs : List Int) (w : World) (hS : IntsAt w B A' m s) (h : IntsAt w B A n xs) (hn : n ≤ 1048576) (hm : m ≤ 1048576) :
    Calls Try.prog 146 #[.slice A' m c', .slice A n c] w fun e w' => e = .returned (.bool (ofB s xs)) ∧ w = w' := by
  have hlS := Lib.hid hS.1
  have hl' := Lib.hid h.1
  cases hg : goodB s
  · have hq := Lib.hid (show ofB s xs = false by unfold ofB; rw [hg]; rfl)
    go_enter Try.func146, Try.ntmps146
    go_wp2_with (go_at_call 138; refine (implGood_any _ _ _ B s _ hS hm).mono ?_; rintro e w' ⟨rfl, rfl⟩)
    go_ret
    exact ⟨ret_bool hq.out.symm, rfl⟩
  · have hm10 : (m : Int) ≤ 10 := by have := (goodB_iff.1 hg).1; rw [hlS.out] at this; omega
    cases hr : risB xs 0 9
    · have hq := Lib.hid (show ofB s xs = false by
        unfold ofB; rw [hg, hlS.out]
        cases e : risB xs 0 ((m : Int) - 1)
        · rfl
        · rw [ris_wider e (by omega)] at hr; cases hr)
      go_enter Try.func146, Try.ntmps146
      go_wp2_with (first
        | (go_at_call 138; refine (implGood_any _ _ _ B s _ hS hm).mono ?_; rintro e w' ⟨rfl, rfl⟩)
        | (go_at_call 161; refine (isGroup_any _ _ _ B xs _ h hn).mono ?_; rintro e w' ⟨rfl, rfl⟩))
      go_ret
      exact ⟨ret_bool hq.out.symm, rfl⟩
    · by_cases h0 : n = 0
      · have hz : ((n : Int) == 0) = true := by simp [h0]
        have hq := Lib.hid (show ofB s xs = true by
          unfold ofB; rw [hg]
          have : xs = [] := List.eq_nil_of_length_eq_zero (by rw [hl'.out]; exact h0)
          rw [this]; rfl)
        have h0' := Lib.hid h0; clear h0
        go_enter Try.func146, Try.ntmps146
        go_wp2_with (first
          | (go_at_call 138; refine (implGood_any _ _ _ B s _ hS hm).mono ?_; rintro e w' ⟨rfl, rfl⟩)
          | (go_at_call 161; refine (isGroup_any _ _ _ B xs _ h hn).mono ?_; rintro e w' ⟨rfl, rfl⟩))
        go_ret
        exact ⟨ret_bool hq.out.symm, rfl⟩
      · have hz : ((n : Int) == 0) = false := by simp; omega
        obtain ⟨b, off, rfl, _, hc⟩ := h.2 (n - 1) (by omega)
        have hk2 : ((n : Int) - 1).toNat = n - 1 := by omega
        have hb1 : (0 : Int) ≤ (n : Int) - 1 := by omega
        have hb2 : (n : Int) - 1 < (n : Int) := by omega
        by_cases hlast : xs[n - 1]?.getD 0 < (m : Int)
        · have hq := Lib.hid (show ofB s xs = true by
            unfold ofB; rw [hg, hlS.out, ris_of_last hr (by rw [hl'.out]; exact hlast)]; rfl)
          go_enter Try.func146, Try.ntmps146
          go_wp2_with (first
            | (go_at_call 138; refine (implGood_any _ _ _ B s _ hS hm).mono ?_; rintro e w' ⟨rfl, rfl⟩)
            | (go_at_call 161; refine (isGroup_any _ _ _ B xs _ h hn).mono ?_; rintro e w' ⟨rfl, rfl⟩))
          go_ret
          exact ⟨ret_bool hq.out.symm, rfl⟩
        · have hq := Lib.hid (show ofB s xs = false by
            unfold ofB; rw [hg, hlS.out, ris_not_last (by rw [hl'.out]; omega) (by rw [hl'.out]; exact hlast)]; rfl)
          have hd : decide (xs[n - 1]?.getD 0 < (m : Int)) = false := by simpa using hlast
          go_enter Try.func146, Try.ntmps146
          go_wp2_with (first
            | (go_at_call 138; refine (implGood_any _ _ _ B s _ hS hm).mono ?_; rintro e w' ⟨rfl, rfl⟩)
            | (go_at_call 161; refine (isGroup_any _ _ _ B xs _ h hn).mono ?_; rintro e w' ⟨rfl, rfl⟩))
          go_ret
          exact ⟨ret_bool hq.out.symm, rfl⟩
end Go.Proofs.Ytgdgajgfehjjdaa
