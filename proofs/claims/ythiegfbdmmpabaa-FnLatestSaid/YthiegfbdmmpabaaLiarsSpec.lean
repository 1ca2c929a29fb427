/- What is proved here: what the model's l6Liars and LiarsIn return. No conditions but lengths. -/
import Derived.Test.YthiegfbdmmpabaaLiarsImpl
import Derived.Test.YthiegfbdmmpabaaVotePoolSpec
namespace Go.Proofs.Ythiegfbdmmpabaa
open Go.RowKit

set_option maxRecDepth 100000 in
set_option maxHeartbeats 1600000 in
theorem l6Liars_any (V : Option Addr) (m d : Nat) (vs : List Vt) (w : World) (hv : VotesAt w w.heap.size V m vs) (hm : m ≤ 60) :
    Calls Try.prog 131 #[.slice V m d] w (RetSl w (putsL vs m)) := by
  have hlv := Lib.hid hv.1
  have hvv := Lib.hid hv; clear hv
  go_enter Try.func131, Try.ntmps131
  go_wp2_with fail
  go_loopw [3, 4, 5, 8] (fun o _ _ i wr => ∃ k : Nat, k ≤ m ∧ i = .int .i64 k ∧ Hid (wr.ownsRow w.heap.size 3 1 o (putsL vs k).length ((putsL vs k).map (Value.int .i64))) ∧ Hid (Below w.heap.size w wr)) (fun _ _ _ i _ => m - (intOf i).toNat)
  case atStart => exact ⟨0, Nat.zero_le _, rfl, Lib.hid (World.ownsRow_nil _ _ _ _), Lib.hid (Below.refl _ _)⟩
  case round =>
    obtain ⟨k, hk, rfl, ho, hbel⟩ := hrel
    by_cases hlt : k < m
    · obtain ⟨vb, vo, rfl, hvb, hcs⟩ := hvv.out.at (by omega)
      obtain ⟨b, hb⟩ : ∃ b, getV vs k = b := ⟨_, rfl⟩
      have q0 := (hbel.out.cell (p := ⟨vb, vo + k * 3, none⟩) hvb).trans (hcs k hlt).1
      have q1 := (hbel.out.cell (p := ⟨vb, vo + k * 3 + 1, none⟩) hvb).trans (hcs k hlt).2.1
      have q2 := (hbel.out.cell (p := ⟨vb, vo + k * 3 + 2, none⟩) hvb).trans (hcs k hlt).2.2
      rw [hb] at q0 q1 q2
      obtain ⟨b1, b2, b3⟩ := b
      simp only at q0 q1 q2
      have hcs' := Lib.hid hcs
      have hb1 := bx_below wr (.cells #[.int .i64 b1, .int .i64 b2, .int .i64 b3] 63)
      have r3 := three_cells wr b1 b2 b3 63
      obtain ⟨W, hW⟩ : ∃ W, wr.alloc (.cells #[.int .i64 b1, .int .i64 b2, .int .i64 b3] 63) = W := ⟨_, rfl⟩
      rw [hW] at hb1 r3
      have e0 := r3.cell (i := 0) (by omega)
      have e1 := r3.cell (i := 1) (by omega)
      simp only [if_true, if_false, show (1 : Nat) ≠ 0 by decide] at e0 e1
      have hW' := Lib.hid hW
      have u1 := Lib.hid (hbel.out.trans (hb1.mono hbel.out.size))
      have o1 := Lib.hid (owns_belowV ho.out hb1)
      have hkm : (k : Int) < (m : Int) := by omega
      have hpl := putsL_len vs k
      have hbw := Lib.hid (show (getV vs k).1 = b1 by rw [hb])
      have hbs := Lib.hid (show (getV vs k).2.1 = b2 by rw [hb])
      clear hW hb1 r3 hcs hb
      by_cases hk0 : k = 0
      · have hd0 : decide (0 < k) = false := decide_eq_false (by omega)
        have hnx := Lib.hid (show putsL vs (k + 1) = putsL vs k by simp only [putsL]; rw [show liarAt vs k = false by unfold liarAt; rw [hd0]; rfl]; rfl)
        clear hk0
        go_wp2_with fail
        rw [hW'.out]
        go_quiet (fail)
        go_wp2_with fail
        go_roundw
        case rel => exact ⟨k + 1, by omega, by go_num, Lib.hid (by rw [hnx.out]; exact o1.out), Lib.hid (below_drewN u1.out _)⟩
        case measure => simp [intOf]; omega
      · have hd0 : decide (0 < k) = true := decide_eq_true (by omega)
        obtain ⟨K, hK⟩ : ∃ K, k - 1 = K := ⟨_, rfl⟩
        have hKm : K < m := by omega
        obtain ⟨a, ha⟩ : ∃ a, getV vs K = a := ⟨_, rfl⟩
        have p0 := (u1.out.cell (p := ⟨vb, vo + K * 3, none⟩) hvb).trans (hcs'.out K hKm).1
        have p1 := (u1.out.cell (p := ⟨vb, vo + K * 3 + 1, none⟩) hvb).trans (hcs'.out K hKm).2.1
        rw [ha] at p0 p1
        obtain ⟨a1, a2, a3⟩ := a
        simp only at p0 p1
        have hKI : (k : Int) - 1 = (K : Int) := by omega
        have hKw : IntKind.i64.wrap ((k : Int) - 1) = (K : Int) := by rw [hKI]; exact wrap_natV (by omega)
        have hKmI : (K : Int) < (m : Int) := by omega
        have hst := Lib.hid (show liarAt vs k = (a1 == b1 && a2 == b2) by unfold liarAt; rw [hd0, hK, ha, hbw.out, hbs.out]; rfl)
        clear ha hK hKI hk0
        by_cases g1 : a1 = b1
        · have c1 : (a1 == b1) = true := by simp [g1]
          by_cases g2 : a2 = b2
          · have c2 : (a2 == b2) = true := by simp [g2]
            have hnx := Lib.hid (show putsL vs (k + 1) = putL (putsL vs k) b1 by simp only [putsL]; rw [hst.out, c1, c2, hbw.out]; rfl)
            clear g1 g2
            go_wp2_with fail
            rw [hW'.out]
            go_quiet (fail)
            have hws : w.heap.size ≤ (W.drewN nq).heap.size := u1.out.size
            have hput := Lib.hid (l1Put_any _ (putsL vs k) b1 w.heap.size (W.drewN nq) (show (W.drewN nq).ownsRow _ _ _ _ _ _ from o1.out) (by omega) hws)
            have u2 := Lib.hid (below_drewN u1.out nq)
            go_wp2_with fail
            refine hput.out.mono ?_
            rintro e w3 ⟨v3, rfl, r1, b3⟩
            have z1 := Lib.hid r1
            have u3 := Lib.hid (u2.out.trans (b3.mono u2.out.size))
            clear r1 b3 hput
            go_wp2_with fail
            go_roundw
            case rel => exact ⟨k + 1, by omega, by go_num, Lib.hid (by rw [hnx.out]; exact z1.out), u3⟩
            case measure => simp [intOf]; omega
          · have c2 : (a2 == b2) = false := by simp [g2]
            have hnx := Lib.hid (show putsL vs (k + 1) = putsL vs k by simp only [putsL]; rw [hst.out, c1, c2]; rfl)
            clear g1 g2
            go_wp2_with fail
            rw [hW'.out]
            go_quiet (fail)
            go_wp2_with fail
            go_roundw
            case rel => exact ⟨k + 1, by omega, by go_num, Lib.hid (by rw [hnx.out]; exact o1.out), Lib.hid (below_drewN u1.out _)⟩
            case measure => simp [intOf]; omega
        · have c1 : (a1 == b1) = false := by simp [g1]
          have hnx := Lib.hid (show putsL vs (k + 1) = putsL vs k by simp only [putsL]; rw [hst.out, c1]; rfl)
          clear g1
          go_wp2_with fail
          rw [hW'.out]
          go_quiet (fail)
          go_wp2_with fail
          go_roundw
          case rel => exact ⟨k + 1, by omega, by go_num, Lib.hid (by rw [hnx.out]; exact o1.out), Lib.hid (below_drewN u1.out _)⟩
          case measure => simp [intOf]; omega
    · have hkn : k = m := by omega
      have ho' := Lib.hid (show wr.ownsRow w.heap.size 3 1 _ (putsL vs m).length ((putsL vs m).map (Value.int .i64)) by rw [hkn] at ho; exact ho.out)
      clear hkn
      go_wp2_with fail
      go_ret
      obtain ⟨A', c', e, hown⟩ := OwnAt.of_owns ho'.out
      exact ⟨A', _, c', by rw [e]; rfl, hown, hbel.out⟩

set_option maxRecDepth 100000 in
set_option maxHeartbeats 800000 in
theorem specLiars_any (A : Option Addr) (n c : Nat) (ts : List Blk) (A' : Option Addr) (n' c' : Nat) (ss : List Int) (V : Option Addr) (m d : Nat) (vs : List Vt) (w : World) (h : BlksAt w w.heap.size A n ts) (h' : IntsAt w w.heap.size A' n' ss) (hv : VotesAt w w.heap.size V m vs) (hn : n ≤ 1048576) (hn' : n' ≤ 1048576) (hm : m ≤ 1048576) :
    Calls Try.prog 62 #[.slice A n c, .slice A' n' c', .agg #[.slice V m d]] w (RetOwn w (poolOk ts ss vs) (liarsR ts ss vs)) := by
  have hlv := Lib.hid hv.1
  have hh := Lib.hid h; have hh' := Lib.hid h'; have hvv := Lib.hid hv; clear h h' hv
  have bx0 := Lib.hid (Bx.start w (.slice V m d) 55)
  have hc0 := bx0.out.cell
  cases hg : poolOk ts ss vs
  · have hr := Lib.hid (show liarsR ts ss vs = [] by unfold liarsR; rw [hg]; rfl)
    go_enter Try.func62, Try.ntmps62
    go_wp2_with (go_at_call 112; refine (specGoodPool_any A n c ts A' n' c' ss V m d vs _ (hh.out.up bx0.out.below) (hh'.out.up' bx0.out.below) (hvv.out.up bx0.out.below) hn hn' hm).mono ?_; rintro e w1 ⟨rfl, b1⟩; rw [hg]; have bx1 := Lib.hid (bx0.out.step b1); clear b1)
    go_ret2
    exact ⟨none, 0, 0, rfl, by rw [hr.out]; exact own_nil _ _, bx1.out.below⟩
  · obtain ⟨⟨_, h60⟩, _, _⟩ := poolOk_iff.1 hg
    have hr := Lib.hid (show liarsR ts ss vs = putsL vs m by unfold liarsR; rw [hg, if_pos rfl, hlv.out])
    have hm60 : m ≤ 60 := by rw [← hlv.out]; exact h60
    clear h60
    go_enter Try.func62, Try.ntmps62
    go_wp2_with (first
      | (go_at_call 112; refine (specGoodPool_any A n c ts A' n' c' ss V m d vs _ (hh.out.up bx0.out.below) (hh'.out.up' bx0.out.below) (hvv.out.up bx0.out.below) hn hn' hm).mono ?_; rintro e w1 ⟨rfl, b1⟩; rw [hg]; have bx1 := Lib.hid (bx0.out.step b1); have hc1 := bx1.out.cell; clear b1)
      | (go_at_call 131; refine (l6Liars_any V m d vs _ (hvv.out.up bx1.out.below) hm60).mono ?_; rintro e w2 ⟨A2, n2, c2, rfl, o2, b2⟩; have o2' := Lib.hid (o2.fewer bx1.out.below.size); have bx2 := Lib.hid (bx1.out.step b2); clear o2 b2))
    go_ret2
    exact ⟨A2, n2, c2, rfl, by rw [hr.out]; exact o2'.out, bx2.out.below⟩
end Go.Proofs.Ythiegfbdmmpabaa
