/- What is proved here: what the model's AsleepIn returns. No conditions but lengths. -/
import Derived.Test.YthiegfbdmmpabaaAsleepSpec
namespace Go.Proofs.Ythiegfbdmmpabaa
open Go.RowKit

set_option maxRecDepth 100000 in
set_option maxHeartbeats 3200000 in
theorem specAsleep_any (A : Option Addr) (n c : Nat) (ts : List Blk) (A' : Option Addr) (n' c' : Nat) (ss : List Int) (V : Option Addr) (m d : Nat) (vs : List Vt) (now keep : Int) (w : World) (h : BlksAt w w.heap.size A n ts) (h' : IntsAt w w.heap.size A' n' ss) (hv : VotesAt w w.heap.size V m vs) (hn : n ≤ 1048576) (hn' : n' ≤ 1048576) (hm : m ≤ 1048576) :
    Calls Try.prog 46 #[.slice A n c, .slice A' n' c', .agg #[.slice V m d], .int .i64 now, .int .i64 keep] w (RetOwn w (trimOK ts ss vs now keep) (asleepR ts ss vs now keep)) := by
  have hl' := Lib.hid h'.1; have hlv := Lib.hid hv.1
  have hh := Lib.hid h; have hh' := Lib.hid h'; have hvv := Lib.hid hv; clear h h' hv
  have bx0 := Lib.hid (Bx.start w (.slice V m d) 55)
  have hc0 := bx0.out.cell
  cases hg : trimOK ts ss vs now keep
  · have hr := Lib.hid (show asleepR ts ss vs now keep = [] by unfold asleepR; rw [if_neg (by rw [hg]; decide)])
    go_enter Try.func46, Try.ntmps46
    go_wp2_with (go_at_call 44; refine (specActive_any A n c ts A' n' c' ss V m d vs now keep _ (hh.out.up bx0.out.below) (hh'.out.up' bx0.out.below) (hvv.out.up bx0.out.below) hn hn' hm).mono ?_; rw [hg]; rintro e w1 ⟨A1, n1, c1, rfl, o1, b1⟩; have bx1 := Lib.hid (bx0.out.step (b1.trans ((bx_below w1 (.cells #[.slice A1 n1 c1] 55)).mono b1.size))); clear o1 b1 hc0)
    go_ret2
    exact ⟨none, 0, 0, rfl, by rw [hr.out]; exact own_nil _ _, bx1.out.below⟩
  · have hp := Lib.hid (trimOK_iff.1 hg).1
    obtain ⟨P, hP⟩ : ∃ P, actR ts ss vs now keep = P := ⟨_, rfl⟩
    have hP' := Lib.hid hP
    have hwh := Lib.hid (fun k (hk : k < vs.length) => (show ∃ i : Nat, (getV vs k).1 = i ∧ i < n' by
      obtain ⟨⟨i, a, b⟩, _⟩ := voteOk_iff.1 ((poolOk_iff.1 hp.out).2.1 k hk)
      exact ⟨i, a, by rw [← hl'.out]; exact b⟩))
    have hr := Lib.hid (show asleepR ts ss vs now keep = outK (awkK P P.length) vs m by
      unfold asleepR; rw [if_pos hg, hP, hl'.out, ← slp_out (m := n') hwh.out, hlv.out])
    have hpa := Lib.hid (show poolOk ts ss P = true by rw [← hP]; unfold actR; rw [if_pos hg]; exact poolOk_filter (trimOK_iff.1 hg).1 _)
    have hm60 : m ≤ 60 := by rw [← hlv.out]; exact (poolOk_iff.1 hp.out).1.2
    have hP60 := Lib.hid (poolOk_iff.1 hpa.out).1.2
    clear hP
    go_enter Try.func46, Try.ntmps46
    go_wp2_with (go_at_call 44; refine (specActive_any A n c ts A' n' c' ss V m d vs now keep _ (hh.out.up bx0.out.below) (hh'.out.up' bx0.out.below) (hvv.out.up bx0.out.below) hn hn' hm).mono ?_; rw [hg, hP'.out]; rintro e w1 ⟨A1, n1, c1, rfl, o1, b1⟩; have kk := bx_below w1 (.cells #[.slice A1 n1 c1] 55); have x1 := Lib.hid (bx_row w1 (.slice A1 n1 c1) 55); have hx1 := x1.out.cell (i := 0) (by omega); have o2 := Lib.hid (o1.below kk); have bx1 := Lib.hid (bx0.out.step (b1.trans (kk.mono b1.size))); clear o1 b1 kk hc0)
    clear hx1
    have hn1 := Lib.hid o2.out.len
    have hn60 : n1 ≤ 60 := by rw [← hn1.out]; exact hP60.out
    have hv1 := Lib.hid o2.out.votes
    obtain ⟨W1, hW1⟩ : ∃ W1, w1.alloc (.cells #[.slice A1 n1 c1] 55) = W1 := ⟨_, rfl⟩
    rw [hW1] at hv1 bx1
    rw [hW1]
    go_loopw [14, 17, 34] (fun o _ i wr => ∃ k : Nat, k ≤ n1 ∧ i = .int .i64 k ∧ Hid (wr.ownsRow W1.heap.size 3 1 o (awkK P k).length ((awkK P k).map (Value.int .i64))) ∧ Hid (Below W1.heap.size W1 wr)) (fun _ _ i _ => n1 - (intOf i).toNat)
    case atStart => exact ⟨0, Nat.zero_le _, rfl, Lib.hid (World.ownsRow_nil _ _ _ _), Lib.hid (Below.refl _ _)⟩
    case round =>
      obtain ⟨k, hk, rfl, ho, hbel⟩ := hrel
      have hal := awk_len P k
      by_cases hlt : k < n1
      · obtain ⟨vb, vo, rfl, hvb, e0', e1', e2'⟩ := hv1.out.2 k hlt
        have e0 := (hbel.out.cell (p := ⟨vb, vo + k * 3, none⟩) hvb).trans e0'
        have e1 := (hbel.out.cell (p := ⟨vb, vo + k * 3 + 1, none⟩) hvb).trans e1'
        have e2 := (hbel.out.cell (p := ⟨vb, vo + k * 3 + 2, none⟩) hvb).trans e2'
        obtain ⟨v, hvk⟩ : ∃ v, getV P k = v := ⟨_, rfl⟩
        rw [hvk] at e0 e1 e2
        obtain ⟨x, y, z⟩ := v
        simp only at e0 e1 e2
        have hst := Lib.hid (show awkK P (k + 1) = putL (awkK P k) x by simp only [awkK]; rw [hvk])
        have hb1 := bx_below wr (.cells #[.int .i64 x, .int .i64 y, .int .i64 z] 63)
        have u1 := Lib.hid (hbel.out.trans (hb1.mono hbel.out.size))
        have o1 := Lib.hid (owns_belowV ho.out hb1)
        clear hvk e0' e1' e2' hb1
        go_wp2_with (go_at_call 117; refine (l1Put_any _ (awkK P k) x W1.heap.size _ o1.out (by omega) u1.out.size).mono ?_; rintro e w4 ⟨v4, rfl, r4, b4⟩; have z1 := Lib.hid r4; have u4 := Lib.hid (u1.out.trans (b4.mono u1.out.size)); clear r4 b4)
        go_roundw
        case rel => exact ⟨k + 1, by omega, by go_num, Lib.hid (by rw [hst.out]; exact z1.out), u4⟩
        case measure => simp [intOf]; omega
      · have hkn : k = P.length := by rw [hn1.out]; omega
        have bx2 := Lib.hid (bx1.out.step hbel.out)
        have hcx := bx2.out.cell
        obtain ⟨A7, c7, e7, o7⟩ := OwnAt.of_owns ho.out
        obtain ⟨L7, hL7⟩ : ∃ L7, (awkK P k).length = L7 := ⟨_, rfl⟩
        rw [hL7] at e7 o7 hal
        have o7' := Lib.hid o7
        subst e7
        have hsz1 := Lib.hid (Nat.le_trans bx1.out.size hbel.out.size)
        have hke := Lib.hid hkn
        clear o7 hL7 ho hkn
        go_wp2_with fail
        clear hcx
        go_loopw [15, 19, 46] (fun o _ i wq => ∃ j : Nat, j ≤ m ∧ i = .int .i64 j ∧ Hid (wq.ownsRow wr.heap.size 3 1 o (outK (awkK P k) vs j).length ((outK (awkK P k) vs j).map (Value.int .i64))) ∧ Hid (Below wr.heap.size wr wq)) (fun _ _ i _ => m - (intOf i).toNat)
        case atStart => exact ⟨0, Nat.zero_le _, rfl, Lib.hid (World.ownsRow_nil _ _ _ _), Lib.hid (Below.refl _ _)⟩
        case round =>
          obtain ⟨j, hj, rfl, ho, hbq⟩ := hrel
          have hol := out_len (awkK P k) vs j
          by_cases hjt : j < m
          · have bw := Lib.hid (bx2.out.below.trans (hbq.out.mono bx2.out.below.size))
            obtain ⟨vb, vo, rfl, hvb, e0', e1', e2'⟩ := hvv.out.2 j hjt
            have e0 := (bw.out.cell (p := ⟨vb, vo + j * 3, none⟩) hvb).trans e0'
            have e1 := (bw.out.cell (p := ⟨vb, vo + j * 3 + 1, none⟩) hvb).trans e1'
            have e2 := (bw.out.cell (p := ⟨vb, vo + j * 3 + 2, none⟩) hvb).trans e2'
            obtain ⟨v, hvk⟩ : ∃ v, getV vs j = v := ⟨_, rfl⟩
            rw [hvk] at e0 e1 e2
            obtain ⟨x, y, z⟩ := v
            simp only at e0 e1 e2
            have hst := Lib.hid (show outK (awkK P k) vs (j + 1) = if hasB (awkK P k) x = true then outK (awkK P k) vs j else putL (outK (awkK P k) vs j) x by simp only [outK]; rw [hvk])
            have hb1 := bx_below wr (.cells #[.int .i64 x, .int .i64 y, .int .i64 z] 63)
            have r3 := three_cells wr x y z 63
            obtain ⟨W, hW⟩ : ∃ W, wr.alloc (.cells #[.int .i64 x, .int .i64 y, .int .i64 z] 63) = W := ⟨_, rfl⟩
            rw [hW] at hb1 r3
            have f0 := r3.cell (i := 0) (by omega)
            simp only [if_true] at f0
            have hW' := Lib.hid hW
            have u1 := Lib.hid (hbq.out.trans (hb1.mono hbq.out.size))
            have o1 := Lib.hid (owns_belowV ho.out hb1)
            have ia := Lib.hid ((o7'.out.ints.below u1.out).more u1.out.size)
            have hhas := Lib.hid (fun b (hb : hasB (awkK P k) x = b) => (show Calls Try.prog 118 #[.slice A7 L7 c7, .int .i64 x] W fun e w' => e = .returned (.bool b) ∧ W = w' by
              have := l1Has_any A7 L7 c7 W.heap.size (awkK P k) x W ia.out (by omega)
              rw [hb] at this; exact this))
            clear hW hb1 r3 e0' e1' e2' hvk
            cases hb : hasB (awkK P k) x
            · have hnx := Lib.hid (show outK (awkK P k) vs (j + 1) = putL (outK (awkK P k) vs j) x by rw [hst.out, hb]; rfl)
              go_wp2_with (first
                | (go_at_call 118; rw [hW'.out]; refine (hhas.out _ hb).mono ?_; rintro e w7 ⟨rfl, rfl⟩)
                | (go_at_call 117; refine (l1Put_any _ (outK (awkK P k) vs j) x _ _ o1.out (by omega) u1.out.size).mono ?_; rintro e w4 ⟨v4, rfl, r4, b4⟩; have z1 := Lib.hid r4; have u4 := Lib.hid (u1.out.trans (b4.mono u1.out.size)); clear r4 b4))
              go_roundw
              case rel => exact ⟨j + 1, by omega, by go_num, Lib.hid (by rw [hnx.out]; exact z1.out), u4⟩
              case measure => simp [intOf]; omega
            · have hnx := Lib.hid (show outK (awkK P k) vs (j + 1) = outK (awkK P k) vs j by rw [hst.out, hb]; rfl)
              go_wp2_with (go_at_call 118; rw [hW'.out]; refine (hhas.out _ hb).mono ?_; rintro e w7 ⟨rfl, rfl⟩)
              go_roundw
              case rel => exact ⟨j + 1, by omega, by go_num, Lib.hid (by rw [hnx.out]; exact o1.out), u1⟩
              case measure => simp [intOf]; omega
          · have hjm : j = m := by omega
            have hr2 := Lib.hid (show asleepR ts ss vs now keep = outK (awkK P k) vs j by rw [hr.out, hke.out, hjm])
            have u9 := Lib.hid (bx2.out.below.trans (hbq.out.mono bx2.out.below.size))
            have hsz := hsz1.out
            clear hjm
            go_wp2_with fail
            go_ret2
            obtain ⟨A6, c6, e6, o6⟩ := OwnAt.of_owns ho.out
            exact ⟨A6, _, c6, by rw [e6]; rfl, by rw [hr2.out]; exact o6.fewer (by omega), u9.out⟩
end Go.Proofs.Ythiegfbdmmpabaa
