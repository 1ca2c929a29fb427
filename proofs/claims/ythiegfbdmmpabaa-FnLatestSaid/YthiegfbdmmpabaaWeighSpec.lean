/- What is proved here: what the program's and the model's WeightsIn return. No conditions but lengths. -/
import Derived.Test.YthiegfbdmmpabaaWeighFacts
import Derived.Test.YthiegfbdmmpabaaLatestSpec
import Derived.Test.YthiegfbdmmpabaaGhostImpl
namespace Go.Proofs.Ythiegfbdmmpabaa
open Go.RowKit

set_option maxRecDepth 100000 in
set_option maxHeartbeats 1600000 in
theorem implWeigh_any (A : Option Addr) (n c : Nat) (ts : List Blk) (A' : Option Addr) (n' c' : Nat) (ss : List Int) (V : Option Addr) (m d : Nat) (vs : List Vt) (w : World) (h : BlksAt w w.heap.size A n ts) (h' : IntsAt w w.heap.size A' n' ss) (hv : VotesAt w w.heap.size V m vs) (hn : n ≤ 1048576) (hn' : n' ≤ 1048576) (hm : m ≤ 1048576) :
    Calls Try.prog 63 #[.slice A n c, .slice A' n' c', .agg #[.slice V m d]] w (RetOwn w (poolOk ts ss vs) (wR ts ss vs)) := by
  have hl := Lib.hid h.1; have hl' := Lib.hid h'.1
  have hh := Lib.hid h; have hh' := Lib.hid h'; have hvv := Lib.hid hv; clear h h' hv
  have bx0 := Lib.hid (Bx.start w (.slice V m d) 55)
  have hc0 := bx0.out.cell
  cases hg : poolOk ts ss vs
  · have hr := Lib.hid (show wR ts ss vs = [] by unfold wR; rw [hg]; rfl)
    go_enter Try.func63, Try.ntmps63
    go_wp2_with (go_at_call 59; refine (implLatest_any A n c ts A' n' c' ss V m d vs _ (hh.out.up bx0.out.below) (hh'.out.up' bx0.out.below) (hvv.out.up bx0.out.below) hn hn' hm).mono ?_; rw [hg]; rintro e w1 ⟨A1, n1, c1, rfl, o1, b1⟩; have bx1 := Lib.hid (bx0.out.step b1); clear o1 b1)
    go_ret2
    exact ⟨none, 0, 0, rfl, by rw [hr.out]; exact own_nil _ _, bx1.out.below⟩
  · have hr := Lib.hid (show wR ts ss vs = wtsL ts ss vs by unfold wR; rw [hg, if_pos rfl])
    have hfew : n ≤ 24 := by rw [← hl.out]; exact (poolOk_iff.1 hg).1.1.1.few
    have hlr := Lib.hid (show latR ts ss vs = latList vs by unfold latR; rw [hg, if_pos rfl])
    have hvo := Lib.hid (show VotesOf n n' (latList vs) by have := lat_of hg; rw [hl.out, hl'.out] at this; exact this)
    have hwl := Lib.hid (show wtsL ts ss vs = wtsK n ss (latList vs) (latList vs).length by unfold wtsL; rw [hl.out])
    have h60 := Lib.hid (lat_60 hg)
    generalize latList vs = l at hlr hvo hwl h60
    have hmk := fun W => run_make_row' (P := Try.prog) 23 3 (.int .i64 0) 8 Try.underlying23 info3 rfl .i64 .i64 n (by omega) (by omega) W
    have hvo' := Lib.hid (show VotesOf n ss.length l by rw [hl'.out]; exact hvo.out)
    clear hvo
    have hvo := hvo'
    clear hvo'
    go_enter Try.func63, Try.ntmps63
    go_wp2_with (go_at_call 59; refine (implLatest_any A n c ts A' n' c' ss V m d vs _ (hh.out.up bx0.out.below) (hh'.out.up' bx0.out.below) (hvv.out.up bx0.out.below) hn hn' hm).mono ?_; rw [hg, hlr.out]; rintro e w1 ⟨A1, n1, c1, rfl, o1, b1⟩; have bx1 := Lib.hid (bx0.out.step b1); have hvl := Lib.hid o1.votes; have hl1 := Lib.hid o1.len; have hst := Lib.hid ((hh'.out.up' bx0.out.below).up' b1); clear o1 b1)
    have hn60 : n1 ≤ 60 := by rw [← hl1.out]; exact h60.out
    go_loopw [12, 27] (fun _ i wr => ∃ k : Nat, k ≤ n1 ∧ i = .int .i64 k ∧ Hid (OwnAt wr w1.heap.size (some ⟨w1.heap.size, 0, none⟩) n (wtsK n ss l k)) ∧ Hid (Below w1.heap.size w1 wr)) (fun _ i _ => n1 - (intOf i).toNat)
    case atStart => exact ⟨0, Nat.zero_le _, rfl, Lib.hid (OwnAt.of_row (by simp) (wtsK_len _ _ _ _) ((World.rowIs_made w1 (.int .i64 0) n 3).congr (fun i hi => by simp [wtsK, hi]))), Lib.hid ((Below.refl _ _).alloc (Nat.le_refl _) _)⟩
    case round =>
      obtain ⟨k, hk, rfl, ho, hbel⟩ := hrel
      by_cases hlt : k < n1
      · obtain ⟨vb, vo, rfl, hvb, q0', q1', q2'⟩ := hvl.out.2 k hlt
        obtain ⟨⟨x, hx, hxm⟩, ⟨b, hbb, hbn⟩⟩ := hvo.out k (by rw [hl1.out]; exact hlt)
        have q0 := (hbel.out.cell (p := ⟨vb, vo + k * 3, none⟩) hvb).trans q0'
        have q1 := (hbel.out.cell (p := ⟨vb, vo + k * 3 + 1, none⟩) hvb).trans q1'
        have q2 := (hbel.out.cell (p := ⟨vb, vo + k * 3 + 2, none⟩) hvb).trans q2'
        rw [hx] at q0
        rw [hbb] at q2
        obtain ⟨y, hy⟩ : ∃ y, (getV l k).2.1 = y := ⟨_, rfl⟩
        rw [hy] at q1
        rw [hl'.out] at hxm
        obtain ⟨sb, so, rfl, hsb, hsc0⟩ := hst.out.2 x hxm
        have hb1 := bx_below wr (.cells #[.int .i64 (x : Int), .int .i64 y, .int .i64 (b : Int)] 63)
        have r3 := three_cells wr (x : Int) y (b : Int) 63
        obtain ⟨W, hW⟩ : ∃ W, wr.alloc (.cells #[.int .i64 (x : Int), .int .i64 y, .int .i64 (b : Int)] 63) = W := ⟨_, rfl⟩
        rw [hW] at hb1 r3
        have e0 := r3.cell (i := 0) (by omega)
        have e1 := r3.cell (i := 1) (by omega)
        have e2 := r3.cell (i := 2) (by omega)
        simp only [if_true, if_false, show (1 : Nat) ≠ 0 by decide, show (2 : Nat) ≠ 0 by decide, show (2 : Nat) ≠ 1 by decide] at e0 e1 e2
        have hW' := Lib.hid hW
        have u1 := Lib.hid (hbel.out.trans (hb1.mono hbel.out.size))
        have hsc := (u1.out.cell (p := ⟨sb, so + x, none⟩) hsb).trans hsc0
        have o1 := Lib.hid (ho.out.below hb1)
        obtain ⟨g', mm, f, e, hmm, hrow, hf⟩ := o1.out.own (by omega)
        cases e
        have d1 := hrow.cell (i := b) (by omega)
        have fz := hrow.frozen b
        rw [hf b hbn] at d1
        obtain ⟨z, hz⟩ : ∃ z, (wtsK n ss l k)[b]?.getD 0 = z := ⟨_, rfl⟩
        obtain ⟨s, hs⟩ : ∃ s, ss[x]?.getD 0 = s := ⟨_, rfl⟩
        rw [hz] at d1
        rw [hs] at hsc
        have o9 := Lib.hid (show OwnAt (W.setCell ⟨w1.heap.size, b, none⟩ (.int .i64 (wrap64 (z + s)))) w1.heap.size (some ⟨w1.heap.size, 0, none⟩) n (wtsK n ss l (k + 1)) by
          simp only [wtsK]
          rw [hx, hbb, Int.toNat_natCast, Int.toNat_natCast]
          unfold addI getI
          rw [hz, hs]
          exact o1.out.setAt' hbn _)
        have b9 := Lib.hid (u1.out.setCell (p := ⟨w1.heap.size, b, none⟩) (Nat.le_refl _) (.int .i64 (wrap64 (z + s))))
        have hxI : (x : Int) < (n' : Int) := by omega
        have hbI : (b : Int) < (n : Int) := by omega
        clear hW hb1 r3 q0' q1' q2' hx hbb hy hsc0 hz hs hrow hf
        go_wp2_with fail
        rw [hW'.out]
        go_still_tail 12, (by kernel_rfl)
        change wpList _ _ _ _ _ W.drew
        go_wp2_with fail
        go_roundw
        case rel => exact ⟨k + 1, by omega, by go_num, ⟨o9.out.1, o9.out.2, o9.out.3⟩, ⟨b9.out.1, b9.out.2, b9.out.3, b9.out.4, b9.out.5⟩⟩
        case measure => simp [intOf]; omega
      · have hkn : k = n1 := by omega
        have o9 := Lib.hid (show OwnAt wr w1.heap.size (some ⟨w1.heap.size, 0, none⟩) n (wtsK n ss l l.length) by rw [hl1.out, ← hkn]; exact ho.out)
        clear hkn
        go_wp2_with fail
        have hsz := bx1.out.size
        have u9 := Lib.hid (bx1.out.below.trans (hbel.out.mono bx1.out.below.size))
        go_ret2
        exact ⟨_, n, n, rfl, by rw [hr.out, hwl.out]; exact o9.out.fewer (by omega), u9.out⟩

set_option maxRecDepth 100000 in
set_option maxHeartbeats 1600000 in
theorem l6Weights_any (A : Option Addr) (n c : Nat) (ts : List Blk) (A' : Option Addr) (n' c' : Nat) (ss : List Int) (V : Option Addr) (n1 d : Nat) (l : List Vt) (w : World) (h : BlksAt w w.heap.size A n ts) (h' : IntsAt w w.heap.size A' n' ss) (hv : VotesAt w w.heap.size V n1 l) (hn : n ≤ 24) (hvo0 : VotesOf n ss.length l) (h600 : l.length ≤ 60) :
    Calls Try.prog 132 #[.slice A n c, .slice A' n' c', .slice V n1 d] w (RetSl w (wtsK n ss l l.length)) := by
  have hl := Lib.hid h.1; have hl' := Lib.hid h'.1; have hl1 := Lib.hid hv.1
  have hst := Lib.hid h'; have hvl := Lib.hid hv; have hvo := Lib.hid hvo0; have h60 := Lib.hid h600; clear h h' hv hvo0 h600
  have hmk := fun W => run_make_row' (P := Try.prog) 23 3 (.int .i64 0) 8 Try.underlying23 info3 rfl .i64 .i64 n (by omega) (by omega) W
  go_enter Try.func132, Try.ntmps132
  go_wp2_with fail
  have hn60 : n1 ≤ 60 := by rw [← hl1.out]; exact h60.out
  go_loopw [9, 15] (fun _ i wr => ∃ k : Nat, k ≤ n1 ∧ i = .int .i64 k ∧ Hid (OwnAt wr w.heap.size (some ⟨w.heap.size, 0, none⟩) n (wtsK n ss l k)) ∧ Hid (Below w.heap.size w wr)) (fun _ i _ => n1 - (intOf i).toNat)
  case atStart => exact ⟨0, Nat.zero_le _, rfl, Lib.hid (OwnAt.of_row (by simp) (wtsK_len _ _ _ _) ((World.rowIs_made w (.int .i64 0) n 3).congr (fun i hi => by simp [wtsK, hi]))), Lib.hid ((Below.refl _ _).alloc (Nat.le_refl _) _)⟩
  case round =>
    obtain ⟨k, hk, rfl, ho, hbel⟩ := hrel
    by_cases hlt : k < n1
    · obtain ⟨vb, vo, rfl, hvb, q0', q1', q2'⟩ := hvl.out.2 k hlt
      obtain ⟨⟨x, hx, hxm⟩, ⟨b, hbb, hbn⟩⟩ := hvo.out k (by rw [hl1.out]; exact hlt)
      have q0 := (hbel.out.cell (p := ⟨vb, vo + k * 3, none⟩) hvb).trans q0'
      have q1 := (hbel.out.cell (p := ⟨vb, vo + k * 3 + 1, none⟩) hvb).trans q1'
      have q2 := (hbel.out.cell (p := ⟨vb, vo + k * 3 + 2, none⟩) hvb).trans q2'
      rw [hx] at q0
      rw [hbb] at q2
      obtain ⟨y, hy⟩ : ∃ y, (getV l k).2.1 = y := ⟨_, rfl⟩
      rw [hy] at q1
      rw [hl'.out] at hxm
      obtain ⟨sb, so, rfl, hsb, hsc0⟩ := hst.out.2 x hxm
      have hb1 := bx_below wr (.cells #[.int .i64 (x : Int), .int .i64 y, .int .i64 (b : Int)] 63)
      have r3 := three_cells wr (x : Int) y (b : Int) 63
      obtain ⟨W, hW⟩ : ∃ W, wr.alloc (.cells #[.int .i64 (x : Int), .int .i64 y, .int .i64 (b : Int)] 63) = W := ⟨_, rfl⟩
      rw [hW] at hb1 r3
      have e0 := r3.cell (i := 0) (by omega)
      have e1 := r3.cell (i := 1) (by omega)
      have e2 := r3.cell (i := 2) (by omega)
      simp only [if_true, if_false, show (1 : Nat) ≠ 0 by decide, show (2 : Nat) ≠ 0 by decide, show (2 : Nat) ≠ 1 by decide] at e0 e1 e2
      have hW' := Lib.hid hW
      have u1 := Lib.hid (hbel.out.trans (hb1.mono hbel.out.size))
      have hsc := (u1.out.cell (p := ⟨sb, so + x, none⟩) hsb).trans hsc0
      have o1 := Lib.hid (ho.out.below hb1)
      obtain ⟨g', mm, f, e, hmm, hrow, hf⟩ := o1.out.own (by omega)
      cases e
      have d1 := hrow.cell (i := b) (by omega)
      have fz := hrow.frozen b
      rw [hf b hbn] at d1
      obtain ⟨z, hz⟩ : ∃ z, (wtsK n ss l k)[b]?.getD 0 = z := ⟨_, rfl⟩
      obtain ⟨s, hs⟩ : ∃ s, ss[x]?.getD 0 = s := ⟨_, rfl⟩
      rw [hz] at d1
      rw [hs] at hsc
      have o9 := Lib.hid (show OwnAt (W.setCell ⟨w.heap.size, b, none⟩ (.int .i64 (wrap64 (z + s)))) w.heap.size (some ⟨w.heap.size, 0, none⟩) n (wtsK n ss l (k + 1)) by
        simp only [wtsK]
        rw [hx, hbb, Int.toNat_natCast, Int.toNat_natCast]
        unfold addI getI
        rw [hz, hs]
        exact o1.out.setAt' hbn _)
      have b9 := Lib.hid (u1.out.setCell (p := ⟨w.heap.size, b, none⟩) (Nat.le_refl _) (.int .i64 (wrap64 (z + s))))
      have hxI : (x : Int) < (n' : Int) := by omega
      have hbI : (b : Int) < (n : Int) := by omega
      clear hW hb1 r3 q0' q1' q2' hx hbb hy hsc0 hz hs hrow hf
      go_wp2_with fail
      rw [hW'.out]
      go_still_tail 12, (by kernel_rfl)
      change wpList _ _ _ _ _ W.drew
      go_wp2_with fail
      go_roundw
      case rel => exact ⟨k + 1, by omega, by go_num, ⟨o9.out.1, o9.out.2, o9.out.3⟩, ⟨b9.out.1, b9.out.2, b9.out.3, b9.out.4, b9.out.5⟩⟩
      case measure => simp [intOf]; omega
    · have hkn : k = n1 := by omega
      have o9 := Lib.hid (show OwnAt wr w.heap.size (some ⟨w.heap.size, 0, none⟩) n (wtsK n ss l l.length) by rw [hl1.out, ← hkn]; exact ho.out)
      clear hkn
      go_wp2_with fail
      go_ret
      exact ⟨_, n, n, rfl, o9.out, hbel.out⟩

set_option maxRecDepth 100000 in
set_option maxHeartbeats 800000 in
theorem specWeigh_any (A : Option Addr) (n c : Nat) (ts : List Blk) (A' : Option Addr) (n' c' : Nat) (ss : List Int) (V : Option Addr) (m d : Nat) (vs : List Vt) (w : World) (h : BlksAt w w.heap.size A n ts) (h' : IntsAt w w.heap.size A' n' ss) (hv : VotesAt w w.heap.size V m vs) (hn : n ≤ 1048576) (hn' : n' ≤ 1048576) (hm : m ≤ 1048576) :
    Calls Try.prog 64 #[.slice A n c, .slice A' n' c', .agg #[.slice V m d]] w (RetOwn w (poolOk ts ss vs) (wR ts ss vs)) := by
  have hl := Lib.hid h.1; have hl' := Lib.hid h'.1; have hlv := Lib.hid hv.1
  have hh := Lib.hid h; have hh' := Lib.hid h'; have hvv := Lib.hid hv; clear h h' hv
  have bx0 := Lib.hid (Bx.start w (.slice V m d) 55)
  have hc0 := bx0.out.cell
  cases hg : poolOk ts ss vs
  · have hr := Lib.hid (show wR ts ss vs = [] by unfold wR; rw [hg]; rfl)
    go_enter Try.func64, Try.ntmps64
    go_wp2_with (go_at_call 112; refine (specGoodPool_any A n c ts A' n' c' ss V m d vs _ (hh.out.up bx0.out.below) (hh'.out.up' bx0.out.below) (hvv.out.up bx0.out.below) hn hn' hm).mono ?_; rintro e w1 ⟨rfl, b1⟩; rw [hg]; have bx1 := Lib.hid (bx0.out.step b1); clear b1)
    go_ret2
    exact ⟨none, 0, 0, rfl, by rw [hr.out]; exact own_nil _ _, bx1.out.below⟩
  · have hr := Lib.hid (show wR ts ss vs = wtsK n ss (latList vs) (latList vs).length by unfold wR wtsL; rw [hg, if_pos rfl, hl.out])
    have hll := Lib.hid (show latL vs (putsL vs m) m = latList vs by unfold latList; rw [hlv.out])
    have hfew : n ≤ 24 := by rw [← hl.out]; exact (poolOk_iff.1 hg).1.1.1.few
    have hm60 : m ≤ 60 := by rw [← hlv.out]; exact (poolOk_iff.1 hg).1.2
    have hvo := Lib.hid (show VotesOf n ss.length (latList vs) by have := lat_of hg; rw [hl.out] at this; exact this)
    go_enter Try.func64, Try.ntmps64
    go_wp2_with (first
      | (go_at_call 112; refine (specGoodPool_any A n c ts A' n' c' ss V m d vs _ (hh.out.up bx0.out.below) (hh'.out.up' bx0.out.below) (hvv.out.up bx0.out.below) hn hn' hm).mono ?_; rintro e w1 ⟨rfl, b1⟩; rw [hg]; have bx1 := Lib.hid (bx0.out.step b1); have hc1 := bx1.out.cell; clear b1)
      | (go_at_call 129; refine (l6Latest_any V m d vs _ (hvv.out.up bx1.out.below) hm60).mono ?_; rw [hll.out]; rintro e w2 ⟨A2, n2, c2, rfl, o2, b2⟩; have o2' := Lib.hid o2.votes; have bx2 := Lib.hid (bx1.out.step b2); clear o2 b2)
      | (go_at_call 132; refine (l6Weights_any A n c ts A' n' c' ss A2 n2 c2 (latList vs) _ (hh.out.up bx2.out.below) (hh'.out.up' bx2.out.below) o2'.out hfew hvo.out (lat_60 hg)).mono ?_; rintro e w3 ⟨A3, n3, c3, rfl, o3, b3⟩; have o3' := Lib.hid (o3.fewer bx2.out.below.size); have bx3 := Lib.hid (bx2.out.step b3); clear o3 b3))
    go_ret2
    exact ⟨A3, n3, c3, rfl, by rw [hr.out]; exact o3'.out, bx3.out.below⟩
end Go.Proofs.Ythiegfbdmmpabaa
