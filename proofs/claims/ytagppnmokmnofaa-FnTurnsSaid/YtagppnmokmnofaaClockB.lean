/- What is proved here: what TurnOf, TurnsIn and SlotsUntil return, in the program and in the model, at every argument. No conditions. -/
import Derived.Test.YtagppnmokmnofaaClockA
import Derived.Test.YtagppnmokmnofaaOwn
namespace Go.Proofs.Ytagppnmokmnofaa
open Go.RowKit

theorem turnB_parts {xs : List Int} {s slot : Int} (h : turnB xs s slot = true) : goodB xs = true ∧ (1 ≤ s ∧ s ≤ 65520) ∧ 0 ≤ slot ∧ slot ≤ 100 := by
  unfold turnB at h
  rw [Bool.and_eq_true, inB_iff] at h
  obtain ⟨h1, h2, h3⟩ := h
  obtain ⟨g1, g2, g3⟩ := tgB_parts h1
  exact ⟨g1, ⟨g2, g3⟩, h2, h3⟩
theorem turnB_no {xs : List Int} {s slot : Int} (h : goodB xs = false ∨ seedB s = false ∨ slot < 0 ∨ 100 < slot) : turnB xs s slot = false := by
  unfold turnB tgB
  rcases h with h | h | h | h
  · rw [h]; rfl
  · rw [h]; simp
  · rw [inB_low h]; simp
  · rw [inB_high h]; simp
theorem turnB_yes {xs : List Int} {s slot : Int} (h1 : goodB xs = true) (h2 : seedB s = true) (h3 : 0 ≤ slot) (h4 : slot ≤ 100) : turnB xs s slot = true := by
  unfold turnB tgB; rw [h1, h2, inB_true h3 h4]; rfl

set_option maxHeartbeats 800000 in
theorem implTurn_any (A : Option Addr) (m c B : Nat) (xs : List Int) (s slot : Int) (w : World) (h : IntsAt w B A m xs) (hm : m ≤ 1048576) :
    Calls Try.prog 14 #[.slice A m c, .int .i64 s, .int .i64 slot] w fun e w' => e = .returned (.tuple #[.int .i64 (turnR xs s slot), .bool (turnB xs s slot)]) ∧ w = w' := by
  cases hg : goodB xs
  · have hB := Lib.hid (turnB_no (xs := xs) (s := s) (slot := slot) (.inl hg))
    have hq := Lib.hid (show turnR xs s slot = 0 by unfold turnR; rw [hB.out]; rfl)
    go_enter Try.func14, Try.ntmps14
    go_wp2_with (go_at_call 31; refine (implGood_any _ _ _ B xs _ h hm).mono ?_; rintro e w' ⟨rfl, rfl⟩)
    go_ret2
    exact ⟨ret_two hq.out.symm hB.out.symm, rfl⟩
  · cases hs : seedB s
    · have hB := Lib.hid (turnB_no (xs := xs) (s := s) (slot := slot) (.inr (.inl hs)))
      have hq := Lib.hid (show turnR xs s slot = 0 by unfold turnR; rw [hB.out]; rfl)
      go_enter Try.func14, Try.ntmps14
      go_wp2_with (first
        | (go_at_call 31; refine (implGood_any _ _ _ B xs _ h hm).mono ?_; rintro e w' ⟨rfl, rfl⟩)
        | (go_at_call 32; refine (isSeed_any _ _).mono ?_; rintro e w' ⟨rfl, rfl⟩))
      go_ret2
      exact ⟨ret_two hq.out.symm hB.out.symm, rfl⟩
    · by_cases h1 : slot < 0
      · have hB := Lib.hid (turnB_no (xs := xs) (s := s) (slot := slot) (.inr (.inr (.inl h1))))
        have hq := Lib.hid (show turnR xs s slot = 0 by unfold turnR; rw [hB.out]; rfl)
        go_enter Try.func14, Try.ntmps14
        go_wp2_with (first
          | (go_at_call 31; refine (implGood_any _ _ _ B xs _ h hm).mono ?_; rintro e w' ⟨rfl, rfl⟩)
          | (go_at_call 32; refine (isSeed_any _ _).mono ?_; rintro e w' ⟨rfl, rfl⟩))
        go_ret2
        exact ⟨ret_two hq.out.symm hB.out.symm, rfl⟩
      · by_cases h2 : 100 < slot
        · have hB := Lib.hid (turnB_no (xs := xs) (s := s) (slot := slot) (.inr (.inr (.inr h2))))
          have hq := Lib.hid (show turnR xs s slot = 0 by unfold turnR; rw [hB.out]; rfl)
          go_enter Try.func14, Try.ntmps14
          go_wp2_with (first
            | (go_at_call 31; refine (implGood_any _ _ _ B xs _ h hm).mono ?_; rintro e w' ⟨rfl, rfl⟩)
            | (go_at_call 32; refine (isSeed_any _ _).mono ?_; rintro e w' ⟨rfl, rfl⟩))
          go_ret2
          exact ⟨ret_two hq.out.symm hB.out.symm, rfl⟩
        · obtain ⟨j, rfl⟩ := Int.eq_ofNat_of_zero_le (show 0 ≤ slot by omega)
          have hj : j ≤ 100 := by omega
          have hB := Lib.hid (turnB_yes (xs := xs) (s := s) (slot := (j : Int)) hg hs (by omega) (by omega))
          have hq := Lib.hid (show turnR xs s (j : Int) = propI xs (seedN s (j + 1)) by unfold turnR; rw [hB.out, if_pos rfl]; rfl)
          obtain ⟨g1, g2⟩ := inB_iff.1 hs
          go_enter Try.func14, Try.ntmps14
          go_wp2_with (first
            | (go_at_call 31; refine (implGood_any _ _ _ B xs _ h hm).mono ?_; rintro e w' ⟨rfl, rfl⟩)
            | (go_at_call 32; refine (isSeed_any _ _).mono ?_; rintro e w' ⟨rfl, rfl⟩))
          go_loop [1, 26] (fun t i => ∃ k : Nat, k ≤ j + 1 ∧ i = .int .i64 k ∧ t = .int .i64 (seedN s k)) (fun _ i => j + 1 - (intOf i).toNat)
          case atStart => exact ⟨0, Nat.zero_le _, rfl, rfl⟩
          case round =>
            obtain ⟨k, hk, rfl, rfl⟩ := hrel
            obtain ⟨b1, b2⟩ := seedN_bd (s := s) (by omega) (by omega) k
            by_cases hlt : k < j + 1
            · have hlt' : (k : Int) < (j : Int) + 1 := by omega
              go_wp2_with (go_at_call 33; refine (seedAfter_any _ _ b1 b2).mono ?_; rintro e w' ⟨rfl, rfl⟩)
              go_round
              case rel => exact ⟨k + 1, by omega, by go_num, rfl⟩
              case measure => simp [intOf]; omega
            · have hlt' : ¬ (k : Int) < (j : Int) + 1 := by omega
              have hkk := Lib.hid (show k = j + 1 by omega)
              go_wp2_with (go_at_call 34; refine (proposer_any _ _ _ B xs _ _ h hm hg b1 b2).mono ?_; rintro e w' ⟨rfl, rfl⟩)
              go_ret2
              exact ⟨ret_two (by rw [hq.out, hkk.out]) hB.out.symm, rfl⟩

set_option maxHeartbeats 1600000 in
set_option maxRecDepth 100000 in
theorem l2Turns_any (A : Option Addr) (m c n : Nat) (xs : List Int) (s : Int) (w : World) (h : IntsAt w w.heap.size A m xs) (hm : m ≤ 1048576) (hg : goodB xs = true) (h0 : 0 ≤ s) (h1 : s ≤ 65520) (hn : n ≤ 1000) :
    Calls Try.prog 37 #[.slice A m c, .int .i64 s, .int .i64 (n : Int)] w (RetSl w (turnsL xs s n)) := by
  obtain ⟨i0, hi0, hz0, hz1, hz2⟩ := info_parts info3
  have hb := bds_of_good hg
  obtain ⟨p1, p2⟩ := good_sum hg
  go_enter Try.func37, Try.ntmps37
  go_wp2
  go_loopw [1, 2, 7] (fun t i v wr => ∃ k : Nat, k ≤ n ∧ i = .int .i64 ((n : Int) - k) ∧ t = .int .i64 (seedN s k) ∧ wr.ownsRow w.heap.size 3 1 v (turnsL xs s k).length ((turnsL xs s k).map (Value.int .i64)) ∧ Below w.heap.size w wr) (fun _ i _ _ => (intOf i).toNat)
  case atStart => exact ⟨0, by omega, by simp, rfl, World.ownsRow_nil _ _ _ _, Below.refl _ _⟩
  case round =>
    obtain ⟨k, hk, rfl, rfl, hown, hbel⟩ := hrel
    obtain ⟨b1, b2⟩ := seedN_bd (s := s) h0 h1 k
    obtain ⟨b3, b4⟩ := nxt_bd (seedN s k)
    obtain ⟨a1, a2⟩ := prop_arg hg (nxt (seedN s k))
    have hlen := Nat.le_of_eq (turnsL_len xs s k)
    have hs := Lib.hid (turnsL_step xs s k)
    by_cases hlt : k < n
    · have hlt' : (0 : Int) < (n : Int) - (k : Int) := by omega
      have hr : IntsAt wr w.heap.size A m xs := h.below hbel
      go_wp2_with (first
        | (go_at_call 47; refine (l2Next_any _ _ b1 b2).mono ?_; rintro e w' ⟨rfl, rfl⟩)
        | (go_at_call 41; refine (specSum_any _ _ _ _ xs _ hr hm hb).mono ?_; rintro e w' ⟨rfl, rfl⟩)
        | (go_at_call 43; refine (l2Lot_any _ _ _ _ xs _ _ hr hm hg a1 a2).mono ?_; rintro e w' ⟨rfl, rfl⟩)
        | (at_builtin; refine wpList_append_own _ rfl _ _ 23 rfl w.heap.size 3 i0 (.int .i64 0) 1 8 Try.underlying23 hi0 hz0 hz1 hz2 rfl (by decide) _ _ _ rfl (hown.alloc _) ⟨wr.heap.size, 0, none⟩ 1 1 [.int .i64 (lotR xs (nxt (seedN s k) % sumL xs))] rfl rfl ?c1 ?c2 ?c3 ?c4 ?c5 ?_))
      case c1 =>
        intro j u hj
        match j, hj with
        | 0, hj => simp at hj; subst hj; simp [Addr.add]
      case c2 => intro u hu; simp at hu; subst hu; rfl
      case c3 => unfold maxLen; omega
      case c4 => omega
      case c5 => have := hbel.size; simp; omega
      intro v' w1 hown1 hgrow _
      have hbel1 : Below w.heap.size w w1 := (hbel.alloc hbel.size _).grown hgrow (by simp; have := hbel.size; omega) (fun g hg => (hown.lt g hg).1)
      have hown1' := Lib.hid hown1; clear hown1 hgrow
      go_wp2
      go_roundw
      case rel =>
        refine ⟨k + 1, by omega, by go_num, rfl, ?_, hbel1⟩
        have := hown1'.out
        rw [hs.out]
        simpa [turnI, propI, seedN] using this
      case measure => simp [intOf]; omega
    · have hlt' : ¬ (0 : Int) < (n : Int) - (k : Int) := by omega
      have hkn : k = n := by omega
      obtain ⟨A1, c1, rfl, hoa⟩ := OwnAt.of_owns hown
      have hoa' := Lib.hid hoa
      have hkn' := Lib.hid hkn
      clear hown hoa hkn
      go_wp2
      go_ret
      exact ⟨A1, _, c1, rfl, by rw [← hkn'.out]; exact hoa'.out, hbel⟩

theorem specGuard {xs : List Int} {s slot : Int} (hg : tgB xs s = true) (hi : inB slot 0 100 = true) : turnB xs s slot = true := by unfold turnB; rw [hg, hi]; rfl

set_option maxHeartbeats 800000 in
theorem specTurns_any (A : Option Addr) (m c : Nat) (xs : List Int) (s many : Int) (w : World) (h : IntsAt w w.heap.size A m xs) (hm : m ≤ 1048576) :
    Calls Try.prog 11 #[.slice A m c, .int .i64 s, .int .i64 many] w (RetOwn w (turnB xs s many) (turnsR xs s many)) := by
  cases hg : tgB xs s
  · have hB : turnB xs s many = false := by unfold turnB; rw [hg]; rfl
    have hf := Lib.hid (show RetOwn w (turnB xs s many) (turnsR xs s many) (.returned (.tuple #[.slice none 0 0, .bool false])) w by
      unfold turnsR; rw [hB]; exact retOwn_nil w false)
    clear hB
    go_enter Try.func11, Try.ntmps11
    go_wp2_with (go_at_call 35; refine (l2Good_any _ _ _ _ xs _ _ h hm).mono ?_; rintro e w' ⟨rfl, rfl⟩)
    go_ret2
    exact hf.out
  · cases hi : inB many 0 100
    · have hB : turnB xs s many = false := by unfold turnB; rw [hi]; simp
      have hf := Lib.hid (show RetOwn w (turnB xs s many) (turnsR xs s many) (.returned (.tuple #[.slice none 0 0, .bool false])) w by
        unfold turnsR; rw [hB]; exact retOwn_nil w false)
      clear hB
      go_enter Try.func11, Try.ntmps11
      go_wp2_with (first
        | (go_at_call 35; refine (l2Good_any _ _ _ _ xs _ _ h hm).mono ?_; rintro e w' ⟨rfl, rfl⟩)
        | (go_at_call 36; refine (l1In_any _ _ _ _).mono ?_; rintro e w' ⟨rfl, rfl⟩))
      go_ret2
      exact hf.out
    · have hB := Lib.hid (specGuard hg hi)
      obtain ⟨p1, p2, p3⟩ := tgB_parts hg
      obtain ⟨q1, q2⟩ := inB_iff.1 hi
      obtain ⟨j, rfl⟩ := Int.eq_ofNat_of_zero_le q1
      have hR := Lib.hid (show turnsR xs s (j : Int) = turnsL xs s j by unfold turnsR; rw [hB.out]; rfl)
      go_enter Try.func11, Try.ntmps11
      go_wp2_with (first
        | (go_at_call 35; refine (l2Good_any _ _ _ _ xs _ _ h hm).mono ?_; rintro e w' ⟨rfl, rfl⟩)
        | (go_at_call 36; refine (l1In_any _ _ _ _).mono ?_; rintro e w' ⟨rfl, rfl⟩))
      refine (l2Turns_any _ _ _ j xs s _ h hm p1 (by omega) p3 (by omega)).mono ?_
      rintro e w1 ⟨A1, n1, c1, rfl, ho, hb⟩
      have ho' := Lib.hid ho; clear ho
      go_wp2
      go_ret2
      exact ⟨A1, n1, c1, by rw [hB.out]; rfl, by rw [hR.out]; exact ho'.out, hb⟩

def RetTwo (w : World) (x : Int) (b : Bool) (e : Ending) (w' : World) : Prop := e = .returned (.tuple #[.int .i64 x, .bool b]) ∧ Below w.heap.size w w'

set_option maxHeartbeats 800000 in
theorem specTurn_any (A : Option Addr) (m c : Nat) (xs : List Int) (s slot : Int) (w : World) (h : IntsAt w w.heap.size A m xs) (hm : m ≤ 1048576) :
    Calls Try.prog 21 #[.slice A m c, .int .i64 s, .int .i64 slot] w (RetTwo w (turnR xs s slot) (turnB xs s slot)) := by
  cases hg : tgB xs s
  · have hB : turnB xs s slot = false := by unfold turnB; rw [hg]; rfl
    have hf := Lib.hid (show RetTwo w (turnR xs s slot) (turnB xs s slot) (.returned (.tuple #[.int .i64 0, .bool false])) w by
      unfold turnR; rw [hB]; exact ⟨rfl, Below.refl _ _⟩)
    clear hB
    go_enter Try.func21, Try.ntmps21
    go_wp2_with (go_at_call 35; refine (l2Good_any _ _ _ _ xs _ _ h hm).mono ?_; rintro e w' ⟨rfl, rfl⟩)
    go_ret2
    exact hf.out
  · cases hi : inB slot 0 100
    · have hB : turnB xs s slot = false := by unfold turnB; rw [hi]; simp
      have hf := Lib.hid (show RetTwo w (turnR xs s slot) (turnB xs s slot) (.returned (.tuple #[.int .i64 0, .bool false])) w by
        unfold turnR; rw [hB]; exact ⟨rfl, Below.refl _ _⟩)
      clear hB
      go_enter Try.func21, Try.ntmps21
      go_wp2_with (first
        | (go_at_call 35; refine (l2Good_any _ _ _ _ xs _ _ h hm).mono ?_; rintro e w' ⟨rfl, rfl⟩)
        | (go_at_call 36; refine (l1In_any _ _ _ _).mono ?_; rintro e w' ⟨rfl, rfl⟩))
      go_ret2
      exact hf.out
    · have hB := Lib.hid (specGuard hg hi)
      obtain ⟨p1, p2, p3⟩ := tgB_parts hg
      obtain ⟨q1, q2⟩ := inB_iff.1 hi
      obtain ⟨j, rfl⟩ := Int.eq_ofNat_of_zero_le q1
      have hj : j ≤ 100 := by omega
      have hR := Lib.hid (show turnR xs s (j : Int) = turnI xs s j by unfold turnR; rw [hB.out]; rfl)
      go_enter Try.func21, Try.ntmps21
      go_wp2_with (first
        | (go_at_call 35; refine (l2Good_any _ _ _ _ xs _ _ h hm).mono ?_; rintro e w' ⟨rfl, rfl⟩)
        | (go_at_call 36; refine (l1In_any _ _ _ _).mono ?_; rintro e w' ⟨rfl, rfl⟩))
      refine (l2Turns_any _ _ _ (j + 1) xs s _ h hm p1 (by omega) p3 (by omega)).mono ?_
      rintro e w1 ⟨A1, n1, c1, rfl, ho, hb⟩
      have hlen : n1 = j + 1 := by rw [← ho.len, turnsL_len]
      subst hlen
      obtain ⟨b, off, rfl, _, hc⟩ := ho.ints.2 j (by omega)
      rw [turnsL_get (by omega)] at hc
      clear ho
      go_wp2
      go_ret2
      exact ⟨ret_two hR.out.symm hB.out.symm, hb⟩

set_option maxHeartbeats 1600000 in
set_option maxRecDepth 100000 in
theorem implTurns_any (A : Option Addr) (m c : Nat) (xs : List Int) (s many : Int) (w : World) (h : IntsAt w w.heap.size A m xs) (hm : m ≤ 1048576) :
    Calls Try.prog 10 #[.slice A m c, .int .i64 s, .int .i64 many] w (RetOwn w (turnB xs s many) (turnsR xs s many)) := by
  have key : turnB xs s many = false → Hid (RetOwn w (turnB xs s many) (turnsR xs s many) (.returned (.tuple #[.slice none 0 0, .bool false])) w) := fun hB => Lib.hid (by
    unfold turnsR; rw [hB]; exact retOwn_nil w false)
  cases hg : goodB xs
  · have hf := key (turnB_no (.inl hg))
    clear key
    go_enter Try.func10, Try.ntmps10
    go_wp2_with (go_at_call 31; refine (implGood_any _ _ _ _ xs _ h hm).mono ?_; rintro e w' ⟨rfl, rfl⟩)
    go_ret2
    exact hf.out
  · cases hs : seedB s
    · have hf := key (turnB_no (.inr (.inl hs)))
      clear key
      go_enter Try.func10, Try.ntmps10
      go_wp2_with (first
        | (go_at_call 31; refine (implGood_any _ _ _ _ xs _ h hm).mono ?_; rintro e w' ⟨rfl, rfl⟩)
        | (go_at_call 32; refine (isSeed_any _ _).mono ?_; rintro e w' ⟨rfl, rfl⟩))
      go_ret2
      exact hf.out
    · by_cases h1 : many < 0
      · have hf := key (turnB_no (.inr (.inr (.inl h1))))
        clear key
        go_enter Try.func10, Try.ntmps10
        go_wp2_with (first
          | (go_at_call 31; refine (implGood_any _ _ _ _ xs _ h hm).mono ?_; rintro e w' ⟨rfl, rfl⟩)
          | (go_at_call 32; refine (isSeed_any _ _).mono ?_; rintro e w' ⟨rfl, rfl⟩))
        go_ret2
        exact hf.out
      · by_cases h2 : 100 < many
        · have hf := key (turnB_no (.inr (.inr (.inr h2))))
          clear key
          go_enter Try.func10, Try.ntmps10
          go_wp2_with (first
            | (go_at_call 31; refine (implGood_any _ _ _ _ xs _ h hm).mono ?_; rintro e w' ⟨rfl, rfl⟩)
            | (go_at_call 32; refine (isSeed_any _ _).mono ?_; rintro e w' ⟨rfl, rfl⟩))
          go_ret2
          exact hf.out
        · clear key
          obtain ⟨n, rfl⟩ := Int.eq_ofNat_of_zero_le (show 0 ≤ many by omega)
          have hn : n ≤ 100 := by omega
          have hB := Lib.hid (turnB_yes (xs := xs) (s := s) (slot := (n : Int)) hg hs (by omega) (by omega))
          have hR := Lib.hid (show turnsR xs s (n : Int) = turnsL xs s n by unfold turnsR; rw [hB.out]; rfl)
          obtain ⟨g1, g2⟩ := inB_iff.1 hs
          have hmk := fun W => run_make_row' (P := Try.prog) 23 3 (.int .i64 0) 8 Try.underlying23 info3 rfl .i64 .i64 n (by omega) (by omega) W
          go_enter Try.func10, Try.ntmps10
          go_wp2_with (first
            | (go_at_call 31; refine (implGood_any _ _ _ _ xs _ h hm).mono ?_; rintro e w' ⟨rfl, rfl⟩)
            | (go_at_call 32; refine (isSeed_any _ _).mono ?_; rintro e w' ⟨rfl, rfl⟩))
          clear hmk
          go_loopw [1, 30] (fun t i wr => ∃ k : Nat, k ≤ n ∧ i = .int .i64 k ∧ t = .int .i64 (seedN s k) ∧ wr.rowIs w.heap.size 3 n (fun j => if j < k then .int .i64 (turnI xs s j) else .int .i64 0) ∧ Below w.heap.size w wr ∧ w.heap.size < wr.heap.size) (fun _ i _ => n - (intOf i).toNat)
          case atStart => exact ⟨0, Nat.zero_le _, rfl, rfl, (World.rowIs_made w (.int .i64 0) n 3).congr (by intro i hi; simp), (Below.refl _ _).alloc (Nat.le_refl _) _, by simp⟩
          case round =>
            obtain ⟨k, hk, rfl, rfl, hrow, hbel, hsz⟩ := hrel
            obtain ⟨b1, b2⟩ := seedN_bd (s := s) (by omega) (by omega) k
            obtain ⟨b3, b4⟩ := nxt_bd (seedN s k)
            by_cases hlt : k < n
            · have hd := hrow.cell hlt
              have hf := hrow.frozen k
              have hrow' := Lib.hid hrow; clear hrow
              have hr : IntsAt wr w.heap.size A m xs := h.below hbel
              go_wp2_with (first
                | (go_at_call 33; refine (seedAfter_any _ _ b1 b2).mono ?_; rintro e w' ⟨rfl, rfl⟩)
                | (go_at_call 34; refine (proposer_any _ _ _ _ xs _ _ hr hm hg b3 b4).mono ?_; rintro e w' ⟨rfl, rfl⟩))
              go_roundw
              case rel =>
                refine ⟨k + 1, by omega, by go_num, rfl, (hrow'.out.set k _).congr ?_, hbel.setCell (by simp) _, by simpa using hsz⟩
                intro j hj
                by_cases e : j = k
                · subst e; simp [turnI, seedN]
                · simp [e]; by_cases e2 : j < k
                  · simp [e2, show j < k + 1 by omega]
                  · simp [e2, show ¬ j < k + 1 by omega]
              case measure => simp [intOf]; omega
            · have hrow' := Lib.hid hrow; clear hrow
              go_wp2
              go_ret2
              refine ⟨_, n, _, by rw [hB.out]; rfl, ?_, hbel⟩
              rw [hR.out]
              refine OwnAt.of_row hsz (turnsL_len _ _ _) (hrow'.out.congr ?_)
              intro j hj
              simp only [show j < k by omega, if_true]
              rw [turnsL_get hj]

theorem whoB_no {xs : List Int} {s who : Int} (h : goodB xs = false ∨ seedB s = false ∨ who < 0 ∨ (xs.length : Int) ≤ who) : untilB xs s who = false := by
  unfold untilB whoB tgB
  rcases h with h | h | h | h
  · rw [h]; rfl
  · rw [h]; simp
  · rw [inB_low h]; simp
  · rw [inB_high (by omega)]; simp
theorem whoB_yes {xs : List Int} {s who : Int} (h1 : goodB xs = true) (h2 : seedB s = true) (h3 : 0 ≤ who) (h4 : who < (xs.length : Int)) : whoB xs s who = true := by
  unfold whoB tgB; rw [h1, h2, inB_true h3 (by omega)]; rfl
theorem until_some {xs : List Int} {s who : Int} {k : Nat} (hw : whoB xs s who = true) (hk : k < 101) (h : (turnI xs s k == who) = true) (hp : ∀ j, j < k → (turnI xs s j == who) = false) : untilB xs s who = true ∧ untilI xs s who = (k : Int) := by
  have e := untilF_some hk h hp
  have hB : untilB xs s who = true := by unfold untilB; rw [hw, e]; rfl
  exact ⟨hB, by unfold untilI; rw [hB, e]; rfl⟩
theorem until_none {xs : List Int} {s who : Int} (hp : ∀ j, j < 101 → (turnI xs s j == who) = false) : untilB xs s who = false ∧ untilI xs s who = 0 := by
  have e := untilF_none hp
  have hB : untilB xs s who = false := by unfold untilB; rw [e]; simp
  exact ⟨hB, by unfold untilI; rw [hB]; rfl⟩

set_option maxHeartbeats 1600000 in
theorem implUntil_any (A : Option Addr) (m c B : Nat) (xs : List Int) (s who : Int) (w : World) (h : IntsAt w B A m xs) (hm : m ≤ 1048576) :
    Calls Try.prog 15 #[.slice A m c, .int .i64 s, .int .i64 who] w fun e w' => e = .returned (.tuple #[.int .i64 (untilI xs s who), .bool (untilB xs s who)]) ∧ w = w' := by
  have hl' := Lib.hid h.1
  cases hg : goodB xs
  · have hB := Lib.hid (whoB_no (xs := xs) (s := s) (who := who) (.inl hg))
    have hq := Lib.hid (show untilI xs s who = 0 by unfold untilI; rw [hB.out]; rfl)
    go_enter Try.func15, Try.ntmps15
    go_wp2_with (go_at_call 31; refine (implGood_any _ _ _ B xs _ h hm).mono ?_; rintro e w' ⟨rfl, rfl⟩)
    go_ret2
    exact ⟨ret_two hq.out.symm hB.out.symm, rfl⟩
  · cases hs : seedB s
    · have hB := Lib.hid (whoB_no (xs := xs) (s := s) (who := who) (.inr (.inl hs)))
      have hq := Lib.hid (show untilI xs s who = 0 by unfold untilI; rw [hB.out]; rfl)
      go_enter Try.func15, Try.ntmps15
      go_wp2_with (first
        | (go_at_call 31; refine (implGood_any _ _ _ B xs _ h hm).mono ?_; rintro e w' ⟨rfl, rfl⟩)
        | (go_at_call 32; refine (isSeed_any _ _).mono ?_; rintro e w' ⟨rfl, rfl⟩))
      go_ret2
      exact ⟨ret_two hq.out.symm hB.out.symm, rfl⟩
    · by_cases h1 : who < 0
      · have hB := Lib.hid (whoB_no (xs := xs) (s := s) (who := who) (.inr (.inr (.inl h1))))
        have hq := Lib.hid (show untilI xs s who = 0 by unfold untilI; rw [hB.out]; rfl)
        go_enter Try.func15, Try.ntmps15
        go_wp2_with (first
          | (go_at_call 31; refine (implGood_any _ _ _ B xs _ h hm).mono ?_; rintro e w' ⟨rfl, rfl⟩)
          | (go_at_call 32; refine (isSeed_any _ _).mono ?_; rintro e w' ⟨rfl, rfl⟩))
        go_ret2
        exact ⟨ret_two hq.out.symm hB.out.symm, rfl⟩
      · by_cases h2 : (m : Int) ≤ who
        · have hB := Lib.hid (whoB_no (xs := xs) (s := s) (who := who) (.inr (.inr (.inr (by rw [hl'.out]; exact h2)))))
          have hq := Lib.hid (show untilI xs s who = 0 by unfold untilI; rw [hB.out]; rfl)
          go_enter Try.func15, Try.ntmps15
          go_wp2_with (first
            | (go_at_call 31; refine (implGood_any _ _ _ B xs _ h hm).mono ?_; rintro e w' ⟨rfl, rfl⟩)
            | (go_at_call 32; refine (isSeed_any _ _).mono ?_; rintro e w' ⟨rfl, rfl⟩))
          go_ret2
          exact ⟨ret_two hq.out.symm hB.out.symm, rfl⟩
        · have hW := Lib.hid (whoB_yes (xs := xs) (s := s) (who := who) hg hs (by omega) (by rw [hl'.out]; omega))
          obtain ⟨g1, g2⟩ := inB_iff.1 hs
          go_enter Try.func15, Try.ntmps15
          go_wp2_with (first
            | (go_at_call 31; refine (implGood_any _ _ _ B xs _ h hm).mono ?_; rintro e w' ⟨rfl, rfl⟩)
            | (go_at_call 32; refine (isSeed_any _ _).mono ?_; rintro e w' ⟨rfl, rfl⟩))
          go_loop [1, 27] (fun t i => ∃ k : Nat, k ≤ 101 ∧ i = .int .i64 k ∧ t = .int .i64 (seedN s k) ∧ Hid (∀ j, j < k → (turnI xs s j == who) = false)) (fun _ i => 101 - (intOf i).toNat)
          case atStart => exact ⟨0, Nat.zero_le _, rfl, rfl, Lib.hid (fun _ h => absurd h (Nat.not_lt_zero _))⟩
          case round =>
            obtain ⟨k, hk, rfl, rfl, hall⟩ := hrel
            obtain ⟨b1, b2⟩ := seedN_bd (s := s) (by omega) (by omega) k
            obtain ⟨b3, b4⟩ := nxt_bd (seedN s k)
            by_cases hlt : k < 101
            · cases hx : (propI xs (nxt (seedN s k)) == who)
              · have hx' := Lib.hid (show (turnI xs s k == who) = false from hx)
                go_wp2_with (first
                  | (go_at_call 33; refine (seedAfter_any _ _ b1 b2).mono ?_; rintro e w' ⟨rfl, rfl⟩)
                  | (go_at_call 34; refine (proposer_any _ _ _ B xs _ _ h hm hg b3 b4).mono ?_; rintro e w' ⟨rfl, rfl⟩))
                go_round
                case rel =>
                  refine ⟨k + 1, by omega, by go_num, rfl, Lib.hid (fun j hj => ?_)⟩
                  by_cases e : j = k
                  · subst e; exact hx'.out
                  · exact hall.out j (by omega)
                case measure => simp [intOf]; omega
              · have hx' := Lib.hid (show (turnI xs s k == who) = true from hx)
                go_wp2_with (first
                  | (go_at_call 33; refine (seedAfter_any _ _ b1 b2).mono ?_; rintro e w' ⟨rfl, rfl⟩)
                  | (go_at_call 34; refine (proposer_any _ _ _ B xs _ _ h hm hg b3 b4).mono ?_; rintro e w' ⟨rfl, rfl⟩))
                go_ret2
                obtain ⟨e1, e2⟩ := until_some hW.out hlt hx'.out hall.out
                exact ⟨ret_two e2.symm e1.symm, rfl⟩
            · go_wp2
              go_ret2
              obtain ⟨e1, e2⟩ := until_none (xs := xs) (s := s) (who := who) (fun j hj => hall.out j (by omega))
              exact ⟨ret_two e2.symm e1.symm, rfl⟩

set_option maxHeartbeats 1600000 in
theorem specUntil_any (A : Option Addr) (m c : Nat) (xs : List Int) (s who : Int) (w : World) (h : IntsAt w w.heap.size A m xs) (hm : m ≤ 1048576) :
    Calls Try.prog 23 #[.slice A m c, .int .i64 s, .int .i64 who] w (RetTwo w (untilI xs s who) (untilB xs s who)) := by
  have hl' := Lib.hid h.1
  cases hg : tgB xs s
  · have hB : untilB xs s who = false := by unfold untilB whoB; rw [hg]; rfl
    have hf := Lib.hid (show RetTwo w (untilI xs s who) (untilB xs s who) (.returned (.tuple #[.int .i64 0, .bool false])) w by
      unfold untilI; rw [hB]; exact ⟨rfl, Below.refl _ _⟩)
    clear hB
    go_enter Try.func23, Try.ntmps23
    go_wp2_with (go_at_call 35; refine (l2Good_any _ _ _ _ xs _ _ h hm).mono ?_; rintro e w' ⟨rfl, rfl⟩)
    go_ret2
    exact hf.out
  · cases hi : inB who 0 ((m : Int) - 1)
    · have hB : untilB xs s who = false := by unfold untilB whoB; rw [hl'.out, hi]; simp
      have hf := Lib.hid (show RetTwo w (untilI xs s who) (untilB xs s who) (.returned (.tuple #[.int .i64 0, .bool false])) w by
        unfold untilI; rw [hB]; exact ⟨rfl, Below.refl _ _⟩)
      clear hB
      go_enter Try.func23, Try.ntmps23
      go_wp2_with (first
        | (go_at_call 35; refine (l2Good_any _ _ _ _ xs _ _ h hm).mono ?_; rintro e w' ⟨rfl, rfl⟩)
        | (go_at_call 36; refine (l1In_any _ _ _ _).mono ?_; rintro e w' ⟨rfl, rfl⟩))
      go_ret2
      exact hf.out
    · have hW := Lib.hid (show whoB xs s who = true by unfold whoB; rw [hl'.out, hg, hi]; rfl)
      obtain ⟨p1, p2, p3⟩ := tgB_parts hg
      go_enter Try.func23, Try.ntmps23
      go_wp2_with (first
        | (go_at_call 35; refine (l2Good_any _ _ _ _ xs _ _ h hm).mono ?_; rintro e w' ⟨rfl, rfl⟩)
        | (go_at_call 36; refine (l1In_any _ _ _ _).mono ?_; rintro e w' ⟨rfl, rfl⟩))
      refine (l2Turns_any _ _ _ 101 xs s _ h hm p1 (by omega) p3 (by omega)).mono ?_
      rintro e w1 ⟨A1, n1, c1, rfl, ho, hb⟩
      have hlen : n1 = 101 := by rw [← ho.len, turnsL_len]
      subst hlen
      have hi1 := Lib.hid ho.ints
      clear ho
      go_wp2
      go_loop [26] (fun i => ∃ k : Nat, k ≤ 101 ∧ i = .int .i64 k ∧ Hid (∀ j, j < k → (turnI xs s j == who) = false)) (fun i => 101 - (intOf i).toNat)
      case atStart => exact ⟨0, Nat.zero_le _, rfl, Lib.hid (fun _ h => absurd h (Nat.not_lt_zero _))⟩
      case round =>
        obtain ⟨k, hk, rfl, hall⟩ := hrel
        by_cases hlt : k < 101
        · obtain ⟨b, off, rfl, _, hc⟩ := hi1.out.2 k hlt
          rw [turnsL_get hlt] at hc
          cases hx : (turnI xs s k == who)
          · have hx' := Lib.hid hx
            go_wp2
            go_round
            case rel =>
              refine ⟨k + 1, by omega, by go_num, Lib.hid (fun j hj => ?_)⟩
              by_cases e : j = k
              · subst e; exact hx'.out
              · exact hall.out j (by omega)
            case measure => simp [intOf]; omega
          · have hx' := Lib.hid hx
            go_wp2
            go_ret2
            obtain ⟨e1, e2⟩ := until_some hW.out hlt hx'.out hall.out
            exact ⟨ret_two e2.symm e1.symm, hb⟩
        · go_wp2
          go_ret2
          obtain ⟨e1, e2⟩ := until_none (xs := xs) (s := s) (who := who) (fun j hj => hall.out j (by omega))
          exact ⟨ret_two e2.symm e1.symm, hb⟩
end Go.Proofs.Ytagppnmokmnofaa
