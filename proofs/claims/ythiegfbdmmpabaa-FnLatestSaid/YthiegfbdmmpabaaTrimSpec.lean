/- What is proved here: what the program's Trim, FinalView and ActiveIn return. No conditions but lengths. -/
import Derived.Test.YthiegfbdmmpabaaPoolBox
import Derived.Test.YthiegfbdmmpabaaVotePool
import Derived.Laws.EntriesVeiled
import Derived.Test.YthiegfbdmmpabaaVotePoolSpec
namespace Go.Proofs.Ythiegfbdmmpabaa
open Go.RowKit

theorem isSlot_any (x : Int) (w : World) : Calls Try.prog 119 #[.int .i64 x] w fun e w' => e = .returned (.bool (nowB x)) ∧ w = w' := by
  by_cases h1 : 1 ≤ x
  · by_cases h2 : x ≤ 4000
    · have hr := Lib.hid (show nowB x = true from inB_true h1 h2)
      go_enter Try.func119, Try.ntmps119
      go_wp2_with fail
      go_ret
      exact ⟨ret_bool (by rw [hr.out]), rfl⟩
    · have hr := Lib.hid (show nowB x = false from inB_high (by omega))
      go_enter Try.func119, Try.ntmps119
      go_wp2_with fail
      go_ret
      exact ⟨ret_bool (by rw [hr.out]), rfl⟩
  · have hr := Lib.hid (show nowB x = false from inB_low (by omega))
    go_enter Try.func119, Try.ntmps119
    go_wp2_with fail
    go_ret
    exact ⟨ret_bool (by rw [hr.out]), rfl⟩
theorem isPer_any (x : Int) (w : World) : Calls Try.prog 120 #[.int .i64 x] w fun e w' => e = .returned (.bool (keepB x)) ∧ w = w' := by
  by_cases h1 : 1 ≤ x
  · by_cases h2 : x ≤ 100
    · have hr := Lib.hid (show keepB x = true from inB_true h1 h2)
      go_enter Try.func120, Try.ntmps120
      go_wp2_with fail
      go_ret
      exact ⟨ret_bool (by rw [hr.out]), rfl⟩
    · have hr := Lib.hid (show keepB x = false from inB_high (by omega))
      go_enter Try.func120, Try.ntmps120
      go_wp2_with fail
      go_ret
      exact ⟨ret_bool (by rw [hr.out]), rfl⟩
  · have hr := Lib.hid (show keepB x = false from inB_low (by omega))
    go_enter Try.func120, Try.ntmps120
    go_wp2_with fail
    go_ret
    exact ⟨ret_bool (by rw [hr.out]), rfl⟩

set_option maxRecDepth 100000 in
theorem trim1_any (x y z now keep : Int) (g1 g2 : Nat) (w : World) (h1 : w.cell? ⟨g1, 0, none⟩ = some (.int .i64 now)) (h2 : w.cell? ⟨g2, 0, none⟩ = some (.int .i64 keep)) (l1 : g1 < w.heap.size) (l2 : g2 < w.heap.size) (b1 : 1 ≤ now ∧ now ≤ 4000) (b2 : 1 ≤ keep ∧ keep ≤ 100) :
    Calls Try.prog 125 #[.agg #[.int .i64 x, .int .i64 y, .int .i64 z], .pointer (some ⟨g1, 0, none⟩), .pointer (some ⟨g2, 0, none⟩)] w fun e w' => e = .returned (.bool (trimP now keep (x, y, z))) ∧ Below w.heap.size w w' := by
  have r3 := three_cells w x y z 63
  have hb := Lib.hid (bx_below w (.cells #[.int .i64 x, .int .i64 y, .int .i64 z] 63))
  have c1 := r3.cell (i := 1) (by omega)
  simp only [if_true, if_false, show (1 : Nat) ≠ 0 by decide] at c1
  have k1 := (hb.out.cell (p := ⟨g1, 0, none⟩) l1).trans h1
  have k2 := (hb.out.cell (p := ⟨g2, 0, none⟩) l2).trans h2
  have hr := Lib.hid (show trimP now keep (x, y, z) = decide (now - keep ≤ y) from rfl)
  clear r3 h1 h2
  go_enter Try.func125, Try.ntmps125
  go_wp2_with fail
  go_ret
  exact ⟨ret_bool (by rw [hr.out]), hb.out⟩
set_option maxRecDepth 100000 in
theorem final1_any (x y z now : Int) (g1 : Nat) (w : World) (h1 : w.cell? ⟨g1, 0, none⟩ = some (.int .i64 now)) (l1 : g1 < w.heap.size) :
    Calls Try.prog 123 #[.agg #[.int .i64 x, .int .i64 y, .int .i64 z], .pointer (some ⟨g1, 0, none⟩)] w fun e w' => e = .returned (.bool (finP now (x, y, z))) ∧ Below w.heap.size w w' := by
  have r3 := three_cells w x y z 63
  have hb := Lib.hid (bx_below w (.cells #[.int .i64 x, .int .i64 y, .int .i64 z] 63))
  have c1 := r3.cell (i := 1) (by omega)
  simp only [if_true, if_false, show (1 : Nat) ≠ 0 by decide] at c1
  have k1 := (hb.out.cell (p := ⟨g1, 0, none⟩) l1).trans h1
  have hr := Lib.hid (show finP now (x, y, z) = decide (y < now) from rfl)
  clear r3 h1
  go_enter Try.func123, Try.ntmps123
  go_wp2_with fail
  go_ret
  exact ⟨ret_bool (by rw [hr.out]), hb.out⟩

set_option maxRecDepth 100000 in
set_option maxHeartbeats 1600000 in
theorem cutT_any (V : Option Addr) (m d : Nat) (vs : List Vt) (now keep : Int) (g1 g2 : Nat) (w : World) (hv : VotesAt w w.heap.size V m vs) (hm : m ≤ 60) (h1 : w.cell? ⟨g1, 0, none⟩ = some (.int .i64 now)) (h2 : w.cell? ⟨g2, 0, none⟩ = some (.int .i64 keep)) (l1 : g1 < w.heap.size) (l2 : g2 < w.heap.size) (b1 : 1 ≤ now ∧ now ≤ 4000) (b2 : 1 ≤ keep ∧ keep ≤ 100) :
    Calls Try.prog 124 #[.agg #[.func (.func 125) #[] #[.pointer (some ⟨g1, 0, none⟩), .pointer (some ⟨g2, 0, none⟩)]], .agg #[.slice V m d]] w (RetPl w (vs.filter (trimP now keep))) := by
  have hlv := Lib.hid hv.1
  have hvv := Lib.hid hv
  obtain ⟨r1, r2, r3, bW, sW⟩ := bx3_rows w (.func (.func 125) #[] #[.pointer (some ⟨g1, 0, none⟩), .pointer (some ⟨g2, 0, none⟩)]) (.slice V m d) (.slice none 0 0) 133 55 55
  have hc2 := r2.cell (i := 0) (by omega)
  have q1 := Lib.hid r1; have q3 := Lib.hid r3; have bb := Lib.hid bW; have ss0 := Lib.hid sW
  have hh1 := Lib.hid h1; have hh2 := Lib.hid h2
  clear r1 r2 r3 bW sW hv h1 h2
  go_enter Try.func124, Try.ntmps124
  go_wp2_with fail
  clear hc2
  go_loopw [5, 7, 11] (fun o _ i wr => ∃ k : Nat, k ≤ m ∧ i = .int .i64 k ∧ Hid (wr.ownsRow (w.heap.size + 3) 63 3 o ((vs.take k).filter (trimP now keep)).length (flatV ((vs.take k).filter (trimP now keep)))) ∧ Hid (Below (w.heap.size + 3) (((w.alloc (.cells #[.func (.func 125) #[] #[.pointer (some ⟨g1, 0, none⟩), .pointer (some ⟨g2, 0, none⟩)]] 133)).alloc (.cells #[.slice V m d] 55)).alloc (.cells #[.slice none 0 0] 55)) wr)) (fun _ _ i _ => m - (intOf i).toNat)
  case atStart => exact ⟨0, Nat.zero_le _, rfl, Lib.hid (World.ownsRow_nil _ _ _ _), Lib.hid (Below.refl _ _)⟩
  case round =>
    obtain ⟨k, hk, rfl, ho, hbel⟩ := hrel
    have hws : w.heap.size + 3 ≤ wr.heap.size := by have := hbel.out.size; rw [ss0.out] at this; exact this
    have bw := Lib.hid (bb.out.trans (hbel.out.mono (Nat.le_add_right _ _)))
    have hfl := filter_len (trimP now keep) (vs := vs) (k := k) (by rw [hlv.out]; exact hk)
    by_cases hlt : k < m
    · have p1 := rowIs_below q1.out hbel.out (by omega)
      have hcs := p1.cell (i := 0) (by omega)
      clear p1
      obtain ⟨vb, vo, rfl, hvb, e0', e1', e2'⟩ := hvv.out.2 k hlt
      have e0 := (bw.out.cell (p := ⟨vb, vo + k * 3, none⟩) hvb).trans e0'
      have e1 := (bw.out.cell (p := ⟨vb, vo + k * 3 + 1, none⟩) hvb).trans e1'
      have e2 := (bw.out.cell (p := ⟨vb, vo + k * 3 + 2, none⟩) hvb).trans e2'
      have hstep := Lib.hid (filter_step (trimP now keep) (vs := vs) (k := k) (by rw [hlv.out]; exact hlt))
      obtain ⟨v, hvk⟩ : ∃ v, getV vs k = v := ⟨_, rfl⟩
      rw [hvk] at e0 e1 e2 hstep
      obtain ⟨x, y, z⟩ := v
      simp only at e0 e1 e2
      have hb1 := bx_below wr (.cells #[.int .i64 x, .int .i64 y, .int .i64 z] 63)
      have r3 := three_cells wr x y z 63
      have hcs2 := (hb1.cell (p := ⟨w.heap.size, 0, none⟩) (by show w.heap.size < wr.heap.size; omega)).trans hcs
      obtain ⟨W, hW⟩ : ∃ W, wr.alloc (.cells #[.int .i64 x, .int .i64 y, .int .i64 z] 63) = W := ⟨_, rfl⟩
      rw [hW] at hb1 r3
      have f0 := r3.cell (i := 0) (by omega)
      have f1 := r3.cell (i := 1) (by omega)
      have f2 := r3.cell (i := 2) (by omega)
      simp only [if_true, if_false, show (1 : Nat) ≠ 0 by decide, show (2 : Nat) ≠ 0 by decide, show (2 : Nat) ≠ 1 by decide] at f0 f1 f2
      have G0 := Lib.hid f0; have G1 := Lib.hid f1; have G2 := Lib.hid f2; have gl := Lib.hid r3.lt
      have hW' := Lib.hid hW
      have u1 := Lib.hid (hbel.out.trans (hb1.mono hws))
      have o1 := Lib.hid (ownsV_belowW ho.out hb1)
      have bw2 := Lib.hid (bw.out.trans (hb1.mono bw.out.size))
      have hws1 : w.heap.size + 3 ≤ W.heap.size := Nat.le_trans hws hb1.size
      clear hW hb1 r3 e0' e1' e2' hvk hcs f0 f1 f2
      have hclo := Lib.hid (trim1_any x y z now keep g1 g2 W ((bw2.out.cell (p := ⟨g1, 0, none⟩) l1).trans hh1.out) ((bw2.out.cell (p := ⟨g2, 0, none⟩) l2).trans hh2.out) (Nat.lt_of_lt_of_le l1 bw2.out.size) (Nat.lt_of_lt_of_le l2 bw2.out.size) b1 b2)
      cases hp : (trimP now keep) (x, y, z)
      · have hnx := Lib.hid (show (vs.take (k + 1)).filter (trimP now keep) = (vs.take k).filter (trimP now keep) by rw [hstep.out, hp]; rfl)
        rw [hp] at hclo
        go_wp2_with fail
        rw [hW'.out]
        refine hclo.out.mono ?_
        rintro e w3 ⟨rfl, b3⟩
        have u3 := Lib.hid (u1.out.trans (b3.mono hws1))
        have o3 := Lib.hid (ownsV_belowW o1.out b3)
        clear b3 hclo
        go_wp2_with fail
        go_roundw
        case rel => exact ⟨k + 1, by omega, by go_num, Lib.hid (by rw [hnx.out]; exact o3.out), u3⟩
        case measure => simp [intOf]; omega
      · have hnx := Lib.hid (show (vs.take (k + 1)).filter (trimP now keep) = (vs.take k).filter (trimP now keep) ++ [(x, y, z)] by rw [hstep.out, hp]; rfl)
        rw [hp] at hclo
        go_wp2_with fail
        rw [hW'.out]
        refine hclo.out.mono ?_
        rintro e w3 ⟨rfl, b3⟩
        have u3 := Lib.hid (u1.out.trans (b3.mono hws1))
        have o3 := Lib.hid (ownsV_belowW o1.out b3)
        have k0 := (b3.cell (p := ⟨wr.heap.size, 0, none⟩) gl.out).trans G0.out
        have k1 := (b3.cell (p := ⟨wr.heap.size, 1, none⟩) gl.out).trans G1.out
        have k2 := (b3.cell (p := ⟨wr.heap.size, 2, none⟩) gl.out).trans G2.out
        have hws3 : w.heap.size + 3 ≤ w3.heap.size := Nat.le_trans hws1 b3.size
        clear b3 hclo hcs2
        have hbox := three_cells w3 x y z 63
        have g0 := hbox.cell (i := 0) (by omega)
        have g1 := hbox.cell (i := 1) (by omega)
        have g2 := hbox.cell (i := 2) (by omega)
        simp only [if_true, if_false, show (1 : Nat) ≠ 0 by decide, show (2 : Nat) ≠ 0 by decide, show (2 : Nat) ≠ 1 by decide] at g0 g1 g2
        have F0 := Lib.hid g0; have F1 := Lib.hid g1; have F2 := Lib.hid g2
        clear hbox g0 g1 g2
        go_wp2_with (at_builtin; refine appendVt _ rfl _ _ 53 rfl (w.heap.size + 3) Try.underlying53 _ ((vs.take k).filter (trimP now keep)) rfl (o3.out.alloc _) w3.heap.size 1 x y z rfl F0.out F1.out F2.out (by omega) (by simp; omega) ?_; intro g c9 w9 r1 r2 r3; have z1 := Lib.hid r1; have z2 := Lib.hid r2; clear r1 r2 r3)
        have u9 := Lib.hid ((u3.out.alloc hws3 (.cells #[.int .i64 x, .int .i64 y, .int .i64 z] 63)).grown z2.out (by simp; omega) (fun j e => ((o3.out.alloc (.cells #[.int .i64 x, .int .i64 y, .int .i64 z] 63)).lt j e).1))
        go_roundw
        case rel => exact ⟨k + 1, by omega, by go_num, Lib.hid (by rw [hnx.out]; simpa using z1.out), u9⟩
        case measure => simp [intOf]; omega
    · have hke := Lib.hid (filter_end (trimP now keep) (vs := vs) (k := k) (by rw [hlv.out]; omega))
      have p3 := rowIs_below q3.out hbel.out (by omega)
      have hc3 := p3.cell (i := 0) (by omega)
      have hf3 := p3.frozen 0
      have p3' := Lib.hid p3
      obtain ⟨A', c', e, hown⟩ := OwnV.of_owns ho.out
      obtain ⟨L, hL⟩ : ∃ L, ((vs.take k).filter (trimP now keep)).length = L := ⟨_, rfl⟩
      rw [hL] at e hown
      have hown' := Lib.hid hown
      subst e
      clear p3 hown hL ho
      go_wp2_with fail
      refine bodyPost_ret (results_cell_row rfl _ _ (w.heap.size + 2) 55 #[.slice A' L c'] (0, 0) _ rfl (pl_one_set p3'.out _) Try.underlying55 rfl (by kernel_rfl)) rfl ?_
      refine ⟨A', L, c', rfl, ?_, bw.out.setCell (by show w.heap.size ≤ w.heap.size + 2; omega) _⟩
      rw [← hke.out]
      exact (hown'.out.setBox (by omega) _).fewer (by omega)

set_option maxRecDepth 100000 in
set_option maxHeartbeats 1600000 in
theorem cutF_any (V : Option Addr) (m d : Nat) (vs : List Vt) (now : Int) (g1 : Nat) (w : World) (hv : VotesAt w w.heap.size V m vs) (hm : m ≤ 60) (h1 : w.cell? ⟨g1, 0, none⟩ = some (.int .i64 now)) (l1 : g1 < w.heap.size) :
    Calls Try.prog 124 #[.agg #[.func (.func 123) #[] #[.pointer (some ⟨g1, 0, none⟩)]], .agg #[.slice V m d]] w (RetPl w (vs.filter (finP now))) := by
  have hlv := Lib.hid hv.1
  have hvv := Lib.hid hv
  obtain ⟨r1, r2, r3, bW, sW⟩ := bx3_rows w (.func (.func 123) #[] #[.pointer (some ⟨g1, 0, none⟩)]) (.slice V m d) (.slice none 0 0) 133 55 55
  have hc2 := r2.cell (i := 0) (by omega)
  have q1 := Lib.hid r1; have q3 := Lib.hid r3; have bb := Lib.hid bW; have ss0 := Lib.hid sW
  have hh1 := Lib.hid h1
  clear r1 r2 r3 bW sW hv h1
  go_enter Try.func124, Try.ntmps124
  go_wp2_with fail
  clear hc2
  go_loopw [5, 7, 11] (fun o _ i wr => ∃ k : Nat, k ≤ m ∧ i = .int .i64 k ∧ Hid (wr.ownsRow (w.heap.size + 3) 63 3 o ((vs.take k).filter (finP now)).length (flatV ((vs.take k).filter (finP now)))) ∧ Hid (Below (w.heap.size + 3) (((w.alloc (.cells #[.func (.func 123) #[] #[.pointer (some ⟨g1, 0, none⟩)]] 133)).alloc (.cells #[.slice V m d] 55)).alloc (.cells #[.slice none 0 0] 55)) wr)) (fun _ _ i _ => m - (intOf i).toNat)
  case atStart => exact ⟨0, Nat.zero_le _, rfl, Lib.hid (World.ownsRow_nil _ _ _ _), Lib.hid (Below.refl _ _)⟩
  case round =>
    obtain ⟨k, hk, rfl, ho, hbel⟩ := hrel
    have hws : w.heap.size + 3 ≤ wr.heap.size := by have := hbel.out.size; rw [ss0.out] at this; exact this
    have bw := Lib.hid (bb.out.trans (hbel.out.mono (Nat.le_add_right _ _)))
    have hfl := filter_len (finP now) (vs := vs) (k := k) (by rw [hlv.out]; exact hk)
    by_cases hlt : k < m
    · have p1 := rowIs_below q1.out hbel.out (by omega)
      have hcs := p1.cell (i := 0) (by omega)
      clear p1
      obtain ⟨vb, vo, rfl, hvb, e0', e1', e2'⟩ := hvv.out.2 k hlt
      have e0 := (bw.out.cell (p := ⟨vb, vo + k * 3, none⟩) hvb).trans e0'
      have e1 := (bw.out.cell (p := ⟨vb, vo + k * 3 + 1, none⟩) hvb).trans e1'
      have e2 := (bw.out.cell (p := ⟨vb, vo + k * 3 + 2, none⟩) hvb).trans e2'
      have hstep := Lib.hid (filter_step (finP now) (vs := vs) (k := k) (by rw [hlv.out]; exact hlt))
      obtain ⟨v, hvk⟩ : ∃ v, getV vs k = v := ⟨_, rfl⟩
      rw [hvk] at e0 e1 e2 hstep
      obtain ⟨x, y, z⟩ := v
      simp only at e0 e1 e2
      have hb1 := bx_below wr (.cells #[.int .i64 x, .int .i64 y, .int .i64 z] 63)
      have r3 := three_cells wr x y z 63
      have hcs2 := (hb1.cell (p := ⟨w.heap.size, 0, none⟩) (by show w.heap.size < wr.heap.size; omega)).trans hcs
      obtain ⟨W, hW⟩ : ∃ W, wr.alloc (.cells #[.int .i64 x, .int .i64 y, .int .i64 z] 63) = W := ⟨_, rfl⟩
      rw [hW] at hb1 r3
      have f0 := r3.cell (i := 0) (by omega)
      have f1 := r3.cell (i := 1) (by omega)
      have f2 := r3.cell (i := 2) (by omega)
      simp only [if_true, if_false, show (1 : Nat) ≠ 0 by decide, show (2 : Nat) ≠ 0 by decide, show (2 : Nat) ≠ 1 by decide] at f0 f1 f2
      have G0 := Lib.hid f0; have G1 := Lib.hid f1; have G2 := Lib.hid f2; have gl := Lib.hid r3.lt
      have hW' := Lib.hid hW
      have u1 := Lib.hid (hbel.out.trans (hb1.mono hws))
      have o1 := Lib.hid (ownsV_belowW ho.out hb1)
      have bw2 := Lib.hid (bw.out.trans (hb1.mono bw.out.size))
      have hws1 : w.heap.size + 3 ≤ W.heap.size := Nat.le_trans hws hb1.size
      clear hW hb1 r3 e0' e1' e2' hvk hcs f0 f1 f2
      have hclo := Lib.hid (final1_any x y z now g1 W ((bw2.out.cell (p := ⟨g1, 0, none⟩) l1).trans hh1.out) (Nat.lt_of_lt_of_le l1 bw2.out.size))
      cases hp : (finP now) (x, y, z)
      · have hnx := Lib.hid (show (vs.take (k + 1)).filter (finP now) = (vs.take k).filter (finP now) by rw [hstep.out, hp]; rfl)
        rw [hp] at hclo
        go_wp2_with fail
        rw [hW'.out]
        refine hclo.out.mono ?_
        rintro e w3 ⟨rfl, b3⟩
        have u3 := Lib.hid (u1.out.trans (b3.mono hws1))
        have o3 := Lib.hid (ownsV_belowW o1.out b3)
        clear b3 hclo
        go_wp2_with fail
        go_roundw
        case rel => exact ⟨k + 1, by omega, by go_num, Lib.hid (by rw [hnx.out]; exact o3.out), u3⟩
        case measure => simp [intOf]; omega
      · have hnx := Lib.hid (show (vs.take (k + 1)).filter (finP now) = (vs.take k).filter (finP now) ++ [(x, y, z)] by rw [hstep.out, hp]; rfl)
        rw [hp] at hclo
        go_wp2_with fail
        rw [hW'.out]
        refine hclo.out.mono ?_
        rintro e w3 ⟨rfl, b3⟩
        have u3 := Lib.hid (u1.out.trans (b3.mono hws1))
        have o3 := Lib.hid (ownsV_belowW o1.out b3)
        have k0 := (b3.cell (p := ⟨wr.heap.size, 0, none⟩) gl.out).trans G0.out
        have k1 := (b3.cell (p := ⟨wr.heap.size, 1, none⟩) gl.out).trans G1.out
        have k2 := (b3.cell (p := ⟨wr.heap.size, 2, none⟩) gl.out).trans G2.out
        have hws3 : w.heap.size + 3 ≤ w3.heap.size := Nat.le_trans hws1 b3.size
        clear b3 hclo hcs2
        have hbox := three_cells w3 x y z 63
        have g0 := hbox.cell (i := 0) (by omega)
        have g1 := hbox.cell (i := 1) (by omega)
        have g2 := hbox.cell (i := 2) (by omega)
        simp only [if_true, if_false, show (1 : Nat) ≠ 0 by decide, show (2 : Nat) ≠ 0 by decide, show (2 : Nat) ≠ 1 by decide] at g0 g1 g2
        have F0 := Lib.hid g0; have F1 := Lib.hid g1; have F2 := Lib.hid g2
        clear hbox g0 g1 g2
        go_wp2_with (at_builtin; refine appendVt _ rfl _ _ 53 rfl (w.heap.size + 3) Try.underlying53 _ ((vs.take k).filter (finP now)) rfl (o3.out.alloc _) w3.heap.size 1 x y z rfl F0.out F1.out F2.out (by omega) (by simp; omega) ?_; intro g c9 w9 r1 r2 r3; have z1 := Lib.hid r1; have z2 := Lib.hid r2; clear r1 r2 r3)
        have u9 := Lib.hid ((u3.out.alloc hws3 (.cells #[.int .i64 x, .int .i64 y, .int .i64 z] 63)).grown z2.out (by simp; omega) (fun j e => ((o3.out.alloc (.cells #[.int .i64 x, .int .i64 y, .int .i64 z] 63)).lt j e).1))
        go_roundw
        case rel => exact ⟨k + 1, by omega, by go_num, Lib.hid (by rw [hnx.out]; simpa using z1.out), u9⟩
        case measure => simp [intOf]; omega
    · have hke := Lib.hid (filter_end (finP now) (vs := vs) (k := k) (by rw [hlv.out]; omega))
      have p3 := rowIs_below q3.out hbel.out (by omega)
      have hc3 := p3.cell (i := 0) (by omega)
      have hf3 := p3.frozen 0
      have p3' := Lib.hid p3
      obtain ⟨A', c', e, hown⟩ := OwnV.of_owns ho.out
      obtain ⟨L, hL⟩ : ∃ L, ((vs.take k).filter (finP now)).length = L := ⟨_, rfl⟩
      rw [hL] at e hown
      have hown' := Lib.hid hown
      subst e
      clear p3 hown hL ho
      go_wp2_with fail
      refine bodyPost_ret (results_cell_row rfl _ _ (w.heap.size + 2) 55 #[.slice A' L c'] (0, 0) _ rfl (pl_one_set p3'.out _) Try.underlying55 rfl (by kernel_rfl)) rfl ?_
      refine ⟨A', L, c', rfl, ?_, bw.out.setCell (by show w.heap.size ≤ w.heap.size + 2; omega) _⟩
      rw [← hke.out]
      exact (hown'.out.setBox (by omega) _).fewer (by omega)

set_option maxRecDepth 100000 in
set_option maxHeartbeats 1600000 in
theorem implTrim_any (A : Option Addr) (n c : Nat) (ts : List Blk) (A' : Option Addr) (n' c' : Nat) (ss : List Int) (V : Option Addr) (m d : Nat) (vs : List Vt) (now : Int) (keep : Int) (w : World) (h : BlksAt w w.heap.size A n ts) (h' : IntsAt w w.heap.size A' n' ss) (hv : VotesAt w w.heap.size V m vs) (hn : n ≤ 1048576) (hn' : n' ≤ 1048576) (hm : m ≤ 1048576) :
    Calls Try.prog 53 #[.slice A n c, .slice A' n' c', .agg #[.slice V m d], .int .i64 now, .int .i64 keep] w (RetPool w (trimOK ts ss vs now keep) (trimR ts ss vs now keep)) := by
  have hlv := Lib.hid hv.1
  have hh := Lib.hid h; have hh' := Lib.hid h'; have hvv := Lib.hid hv; clear h h' hv
  have hmf : ∀ (fn : Fn) (first cap : Array Value) (w : World), (Instr.makeFunc fn first cap).run Try.prog w = .ok (.func fn first cap) w := fun _ _ _ _ => rfl
  obtain ⟨r1, r2, r3, rR, bW, sW⟩ := bx4_rows w (.slice V m d) (.int .i64 now) (.int .i64 keep) (.slice none 0 0) 55 3 3 55
  have hc1 := r1.cell (i := 0) (by omega)
  have q1 := Lib.hid r1
  have hc2 := r2.cell (i := 0) (by omega)
  have q2 := Lib.hid r2
  have hc3 := r3.cell (i := 0) (by omega)
  have q3 := Lib.hid r3
  have qR := Lib.hid rR; have u := Lib.hid bW
  clear bW sW rR r1 r2 r3
  cases hg : poolOk ts ss vs
  · skip
    have hok := Lib.hid (show (trimOK ts ss vs now keep) = false by unfold trimOK; rw [hg]; rfl)
    have hr := Lib.hid (show (trimR ts ss vs now keep) = [] by unfold trimR; rw [if_neg (by rw [hok.out]; decide)])
    go_enter Try.func53, Try.ntmps53
    go_wp2_with (first
      | (go_at_call 51; refine (goodPool_any A n c ts A' n' c' ss V m d vs _ (hh.out.up u.out) (hh'.out.up' u.out) (hvv.out.up u.out) hn hn' hm).mono ?_; rintro e w1 ⟨rfl, b1⟩; rw [hg]; replace u := Lib.hid (u.out.trans (b1.mono u.out.size)); replace q1 := Lib.hid (rowIs_below q1.out b1 q1.out.lt); replace q2 := Lib.hid (rowIs_below q2.out b1 q2.out.lt); replace q3 := Lib.hid (rowIs_below q3.out b1 q3.out.lt); replace qR := Lib.hid (rowIs_below qR.out b1 qR.out.lt); clear b1 hc1 hc2 hc3; have hc1 := q1.out.cell (i := 0) (by omega); have hc2 := q2.out.cell (i := 0) (by omega); have hc3 := q3.out.cell (i := 0) (by omega); have hcR := qR.out.cell (i := 0) (by omega); have hfR := qR.out.frozen 0))
    refine bodyPost_ret (results_row2 rfl _ _ (w.heap.size + 3) 55 #[.slice none 0 0] (0, 0) _ rfl (pl_one_set qR.out _) Try.underlying55 rfl (by kernel_rfl)) rfl ?_
    exact ⟨none, 0, 0, by rw [hok.out]; rfl, by rw [hr.out]; exact OwnV.nil _ _, u.out.setCell (by show w.heap.size ≤ w.heap.size + 3; omega) _⟩
  · skip
    cases hnow : nowB now
    · skip
      have hok := Lib.hid (show (trimOK ts ss vs now keep) = false by unfold trimOK; rw [hnow]; simp)
      have hr := Lib.hid (show (trimR ts ss vs now keep) = [] by unfold trimR; rw [if_neg (by rw [hok.out]; decide)])
      go_enter Try.func53, Try.ntmps53
      go_wp2_with (first
        | (go_at_call 51; refine (goodPool_any A n c ts A' n' c' ss V m d vs _ (hh.out.up u.out) (hh'.out.up' u.out) (hvv.out.up u.out) hn hn' hm).mono ?_; rintro e w1 ⟨rfl, b1⟩; rw [hg]; replace u := Lib.hid (u.out.trans (b1.mono u.out.size)); replace q1 := Lib.hid (rowIs_below q1.out b1 q1.out.lt); replace q2 := Lib.hid (rowIs_below q2.out b1 q2.out.lt); replace q3 := Lib.hid (rowIs_below q3.out b1 q3.out.lt); replace qR := Lib.hid (rowIs_below qR.out b1 qR.out.lt); clear b1 hc1 hc2 hc3; have hc1 := q1.out.cell (i := 0) (by omega); have hc2 := q2.out.cell (i := 0) (by omega); have hc3 := q3.out.cell (i := 0) (by omega); have hcR := qR.out.cell (i := 0) (by omega); have hfR := qR.out.frozen 0)
        | (go_at_call 119; refine (isSlot_any now _).mono ?_; rintro e w2 ⟨rfl, rfl⟩; rw [hnow]))
      refine bodyPost_ret (results_row2 rfl _ _ (w.heap.size + 3) 55 #[.slice none 0 0] (0, 0) _ rfl (pl_one_set qR.out _) Try.underlying55 rfl (by kernel_rfl)) rfl ?_
      exact ⟨none, 0, 0, by rw [hok.out]; rfl, by rw [hr.out]; exact OwnV.nil _ _, u.out.setCell (by show w.heap.size ≤ w.heap.size + 3; omega) _⟩
    · skip
      cases hkeep : keepB keep
      · skip
        have hok := Lib.hid (show (trimOK ts ss vs now keep) = false by unfold trimOK; rw [hkeep]; simp)
        have hr := Lib.hid (show (trimR ts ss vs now keep) = [] by unfold trimR; rw [if_neg (by rw [hok.out]; decide)])
        go_enter Try.func53, Try.ntmps53
        go_wp2_with (first
          | (go_at_call 51; refine (goodPool_any A n c ts A' n' c' ss V m d vs _ (hh.out.up u.out) (hh'.out.up' u.out) (hvv.out.up u.out) hn hn' hm).mono ?_; rintro e w1 ⟨rfl, b1⟩; rw [hg]; replace u := Lib.hid (u.out.trans (b1.mono u.out.size)); replace q1 := Lib.hid (rowIs_below q1.out b1 q1.out.lt); replace q2 := Lib.hid (rowIs_below q2.out b1 q2.out.lt); replace q3 := Lib.hid (rowIs_below q3.out b1 q3.out.lt); replace qR := Lib.hid (rowIs_below qR.out b1 qR.out.lt); clear b1 hc1 hc2 hc3; have hc1 := q1.out.cell (i := 0) (by omega); have hc2 := q2.out.cell (i := 0) (by omega); have hc3 := q3.out.cell (i := 0) (by omega); have hcR := qR.out.cell (i := 0) (by omega); have hfR := qR.out.frozen 0)
          | (go_at_call 119; refine (isSlot_any now _).mono ?_; rintro e w2 ⟨rfl, rfl⟩; rw [hnow])
          | (go_at_call 120; refine (isPer_any keep _).mono ?_; rintro e w2 ⟨rfl, rfl⟩; rw [hkeep]))
        refine bodyPost_ret (results_row2 rfl _ _ (w.heap.size + 3) 55 #[.slice none 0 0] (0, 0) _ rfl (pl_one_set qR.out _) Try.underlying55 rfl (by kernel_rfl)) rfl ?_
        exact ⟨none, 0, 0, by rw [hok.out]; rfl, by rw [hr.out]; exact OwnV.nil _ _, u.out.setCell (by show w.heap.size ≤ w.heap.size + 3; omega) _⟩
      · skip
        have hok := Lib.hid (show (trimOK ts ss vs now keep) = true by unfold trimOK; rw [hg, hnow, hkeep]; rfl)
        have hr := Lib.hid (show (trimR ts ss vs now keep) = vs.filter (trimP now keep) by unfold trimR; rw [if_pos hok.out])
        have hm60 : m ≤ 60 := by rw [← hlv.out]; exact (poolOk_iff.1 hg).1.2
        have bn := inB_iff.1 hnow
        have bk := inB_iff.1 hkeep
        go_enter Try.func53, Try.ntmps53
        go_wp2_with (first
          | (go_at_call 51; refine (goodPool_any A n c ts A' n' c' ss V m d vs _ (hh.out.up u.out) (hh'.out.up' u.out) (hvv.out.up u.out) hn hn' hm).mono ?_; rintro e w1 ⟨rfl, b1⟩; rw [hg]; replace u := Lib.hid (u.out.trans (b1.mono u.out.size)); replace q1 := Lib.hid (rowIs_below q1.out b1 q1.out.lt); replace q2 := Lib.hid (rowIs_below q2.out b1 q2.out.lt); replace q3 := Lib.hid (rowIs_below q3.out b1 q3.out.lt); replace qR := Lib.hid (rowIs_below qR.out b1 qR.out.lt); clear b1 hc1 hc2 hc3; have hc1 := q1.out.cell (i := 0) (by omega); have hc2 := q2.out.cell (i := 0) (by omega); have hc3 := q3.out.cell (i := 0) (by omega); have hcR := qR.out.cell (i := 0) (by omega); have hfR := qR.out.frozen 0; have hcA := (rowIs_below q1.out (bx_below w1 (.cells #[.func (.func 125) #[] #[.pointer (some ⟨w.heap.size + 1, 0, none⟩), .pointer (some ⟨w.heap.size + 2, 0, none⟩)]] 133)) q1.out.lt).cell (i := 0) (by omega))
          | (go_at_call 119; refine (isSlot_any now _).mono ?_; rintro e w2 ⟨rfl, rfl⟩; rw [hnow])
          | (go_at_call 120; refine (isPer_any keep _).mono ?_; rintro e w2 ⟨rfl, rfl⟩; rw [hkeep])
          | (go_at_call 124
             have kk : Below w1.heap.size w1 (w1.alloc (.cells #[.func (.func 125) #[] #[.pointer (some ⟨w.heap.size + 1, 0, none⟩), .pointer (some ⟨w.heap.size + 2, 0, none⟩)]] 133)) := bx_below w1 _
             refine (cutT_any V m d vs now keep (w.heap.size + 1) (w.heap.size + 2) _ (hvv.out.up (u.out.trans (kk.mono u.out.size))) hm60 ((rowIs_below q2.out kk q2.out.lt).cell (i := 0) (by omega)) ((rowIs_below q3.out kk q3.out.lt).cell (i := 0) (by omega)) (rowIs_below q2.out kk q2.out.lt).lt (rowIs_below q3.out kk q3.out.lt).lt bn bk).mono ?_
             rintro e w3 ⟨A3, n3, c3, rfl, o3, b3⟩
             have b4 := kk.trans (b3.mono kk.size)
             have o4 := Lib.hid (o3.fewer kk.size)
             have lR := Lib.hid qR.out.lt
             replace u := Lib.hid (u.out.trans (b4.mono u.out.size))
             replace qR := Lib.hid (rowIs_below qR.out b4 qR.out.lt)
             clear hcR hfR hcA o3 b3 b4 kk
             have hcR := qR.out.cell (i := 0) (by omega)
             have hfR := qR.out.frozen 0))
        refine bodyPost_ret (results_row2 rfl _ _ (w.heap.size + 3) 55 #[.slice A3 n3 c3] (0, 0) _ rfl (pl_one_set qR.out _) Try.underlying55 rfl (by kernel_rfl)) rfl ?_
        exact ⟨A3, n3, c3, by rw [hok.out]; rfl, by rw [hr.out]; exact (o4.out.setBox lR.out _).fewer (by have := lR.out; omega), u.out.setCell (by show w.heap.size ≤ w.heap.size + 3; omega) _⟩

set_option maxRecDepth 100000 in
set_option maxHeartbeats 1600000 in
theorem implFinal_any (A : Option Addr) (n c : Nat) (ts : List Blk) (A' : Option Addr) (n' c' : Nat) (ss : List Int) (V : Option Addr) (m d : Nat) (vs : List Vt) (now : Int) (w : World) (h : BlksAt w w.heap.size A n ts) (h' : IntsAt w w.heap.size A' n' ss) (hv : VotesAt w w.heap.size V m vs) (hn : n ≤ 1048576) (hn' : n' ≤ 1048576) (hm : m ≤ 1048576) :
    Calls Try.prog 52 #[.slice A n c, .slice A' n' c', .agg #[.slice V m d], .int .i64 now] w (RetPool w (finOK ts ss vs now) (finR ts ss vs now)) := by
  have hlv := Lib.hid hv.1
  have hh := Lib.hid h; have hh' := Lib.hid h'; have hvv := Lib.hid hv; clear h h' hv
  have hmf : ∀ (fn : Fn) (first cap : Array Value) (w : World), (Instr.makeFunc fn first cap).run Try.prog w = .ok (.func fn first cap) w := fun _ _ _ _ => rfl
  obtain ⟨r1, r2, rR, bW, sW⟩ := bx3_rows w (.slice V m d) (.int .i64 now) (.slice none 0 0) 55 3 55
  have hc1 := r1.cell (i := 0) (by omega)
  have q1 := Lib.hid r1
  have hc2 := r2.cell (i := 0) (by omega)
  have q2 := Lib.hid r2
  have qR := Lib.hid rR; have u := Lib.hid bW
  clear bW sW rR r1 r2
  cases hg : poolOk ts ss vs
  · skip
    have hok := Lib.hid (show (finOK ts ss vs now) = false by unfold finOK; rw [hg]; rfl)
    have hr := Lib.hid (show (finR ts ss vs now) = [] by unfold finR; rw [if_neg (by rw [hok.out]; decide)])
    go_enter Try.func52, Try.ntmps52
    go_wp2_with (first
      | (go_at_call 51; refine (goodPool_any A n c ts A' n' c' ss V m d vs _ (hh.out.up u.out) (hh'.out.up' u.out) (hvv.out.up u.out) hn hn' hm).mono ?_; rintro e w1 ⟨rfl, b1⟩; rw [hg]; replace u := Lib.hid (u.out.trans (b1.mono u.out.size)); replace q1 := Lib.hid (rowIs_below q1.out b1 q1.out.lt); replace q2 := Lib.hid (rowIs_below q2.out b1 q2.out.lt); replace qR := Lib.hid (rowIs_below qR.out b1 qR.out.lt); clear b1 hc1 hc2; have hc1 := q1.out.cell (i := 0) (by omega); have hc2 := q2.out.cell (i := 0) (by omega); have hcR := qR.out.cell (i := 0) (by omega); have hfR := qR.out.frozen 0))
    refine bodyPost_ret (results_row2 rfl _ _ (w.heap.size + 2) 55 #[.slice none 0 0] (0, 0) _ rfl (pl_one_set qR.out _) Try.underlying55 rfl (by kernel_rfl)) rfl ?_
    exact ⟨none, 0, 0, by rw [hok.out]; rfl, by rw [hr.out]; exact OwnV.nil _ _, u.out.setCell (by show w.heap.size ≤ w.heap.size + 2; omega) _⟩
  · skip
    cases hnow : nowB now
    · skip
      have hok := Lib.hid (show (finOK ts ss vs now) = false by unfold finOK; rw [hnow]; simp)
      have hr := Lib.hid (show (finR ts ss vs now) = [] by unfold finR; rw [if_neg (by rw [hok.out]; decide)])
      go_enter Try.func52, Try.ntmps52
      go_wp2_with (first
        | (go_at_call 51; refine (goodPool_any A n c ts A' n' c' ss V m d vs _ (hh.out.up u.out) (hh'.out.up' u.out) (hvv.out.up u.out) hn hn' hm).mono ?_; rintro e w1 ⟨rfl, b1⟩; rw [hg]; replace u := Lib.hid (u.out.trans (b1.mono u.out.size)); replace q1 := Lib.hid (rowIs_below q1.out b1 q1.out.lt); replace q2 := Lib.hid (rowIs_below q2.out b1 q2.out.lt); replace qR := Lib.hid (rowIs_below qR.out b1 qR.out.lt); clear b1 hc1 hc2; have hc1 := q1.out.cell (i := 0) (by omega); have hc2 := q2.out.cell (i := 0) (by omega); have hcR := qR.out.cell (i := 0) (by omega); have hfR := qR.out.frozen 0)
        | (go_at_call 119; refine (isSlot_any now _).mono ?_; rintro e w2 ⟨rfl, rfl⟩; rw [hnow]))
      refine bodyPost_ret (results_row2 rfl _ _ (w.heap.size + 2) 55 #[.slice none 0 0] (0, 0) _ rfl (pl_one_set qR.out _) Try.underlying55 rfl (by kernel_rfl)) rfl ?_
      exact ⟨none, 0, 0, by rw [hok.out]; rfl, by rw [hr.out]; exact OwnV.nil _ _, u.out.setCell (by show w.heap.size ≤ w.heap.size + 2; omega) _⟩
    · skip
      have hok := Lib.hid (show (finOK ts ss vs now) = true by unfold finOK; rw [hg, hnow]; rfl)
      have hr := Lib.hid (show (finR ts ss vs now) = vs.filter (finP now) by unfold finR; rw [if_pos hok.out])
      have hm60 : m ≤ 60 := by rw [← hlv.out]; exact (poolOk_iff.1 hg).1.2
      have bn := inB_iff.1 hnow
      skip
      go_enter Try.func52, Try.ntmps52
      go_wp2_with (first
        | (go_at_call 51; refine (goodPool_any A n c ts A' n' c' ss V m d vs _ (hh.out.up u.out) (hh'.out.up' u.out) (hvv.out.up u.out) hn hn' hm).mono ?_; rintro e w1 ⟨rfl, b1⟩; rw [hg]; replace u := Lib.hid (u.out.trans (b1.mono u.out.size)); replace q1 := Lib.hid (rowIs_below q1.out b1 q1.out.lt); replace q2 := Lib.hid (rowIs_below q2.out b1 q2.out.lt); replace qR := Lib.hid (rowIs_below qR.out b1 qR.out.lt); clear b1 hc1 hc2; have hc1 := q1.out.cell (i := 0) (by omega); have hc2 := q2.out.cell (i := 0) (by omega); have hcR := qR.out.cell (i := 0) (by omega); have hfR := qR.out.frozen 0; have hcA := (rowIs_below q1.out (bx_below w1 (.cells #[.func (.func 123) #[] #[.pointer (some ⟨w.heap.size + 1, 0, none⟩)]] 133)) q1.out.lt).cell (i := 0) (by omega))
        | (go_at_call 119; refine (isSlot_any now _).mono ?_; rintro e w2 ⟨rfl, rfl⟩; rw [hnow])
        | (go_at_call 124
           have kk : Below w1.heap.size w1 (w1.alloc (.cells #[.func (.func 123) #[] #[.pointer (some ⟨w.heap.size + 1, 0, none⟩)]] 133)) := bx_below w1 _
           refine (cutF_any V m d vs now (w.heap.size + 1) _ (hvv.out.up (u.out.trans (kk.mono u.out.size))) hm60 ((rowIs_below q2.out kk q2.out.lt).cell (i := 0) (by omega)) (rowIs_below q2.out kk q2.out.lt).lt ).mono ?_
           rintro e w3 ⟨A3, n3, c3, rfl, o3, b3⟩
           have b4 := kk.trans (b3.mono kk.size)
           have o4 := Lib.hid (o3.fewer kk.size)
           have lR := Lib.hid qR.out.lt
           replace u := Lib.hid (u.out.trans (b4.mono u.out.size))
           replace qR := Lib.hid (rowIs_below qR.out b4 qR.out.lt)
           clear hcR hfR hcA o3 b3 b4 kk
           have hcR := qR.out.cell (i := 0) (by omega)
           have hfR := qR.out.frozen 0))
      refine bodyPost_ret (results_row2 rfl _ _ (w.heap.size + 2) 55 #[.slice A3 n3 c3] (0, 0) _ rfl (pl_one_set qR.out _) Try.underlying55 rfl (by kernel_rfl)) rfl ?_
      exact ⟨A3, n3, c3, by rw [hok.out]; rfl, by rw [hr.out]; exact (o4.out.setBox lR.out _).fewer (by have := lR.out; omega), u.out.setCell (by show w.heap.size ≤ w.heap.size + 2; omega) _⟩

theorem fin_of_trim {ts : List Blk} {ss : List Int} {vs : List Vt} {now keep : Int} (h : trimOK ts ss vs now keep = true) : finOK ts ss (vs.filter (trimP now keep)) now = true ∧ finR ts ss (vs.filter (trimP now keep)) now = actR ts ss vs now keep := by
  obtain ⟨h1, h2, h3⟩ := trimOK_iff.1 h
  have h4 : finOK ts ss (vs.filter (trimP now keep)) now = true := finOK_iff.2 ⟨poolOk_filter h1 _, h2⟩
  refine ⟨h4, ?_⟩
  unfold finR actR
  rw [if_pos h4, if_pos h, wit_act]
set_option maxRecDepth 100000 in
set_option maxHeartbeats 1600000 in
theorem implActive_any (A : Option Addr) (n c : Nat) (ts : List Blk) (A' : Option Addr) (n' c' : Nat) (ss : List Int) (V : Option Addr) (m d : Nat) (vs : List Vt) (now keep : Int) (w : World) (h : BlksAt w w.heap.size A n ts) (h' : IntsAt w w.heap.size A' n' ss) (hv : VotesAt w w.heap.size V m vs) (hn : n ≤ 1048576) (hn' : n' ≤ 1048576) (hm : m ≤ 1048576) :
    Calls Try.prog 43 #[.slice A n c, .slice A' n' c', .agg #[.slice V m d], .int .i64 now, .int .i64 keep] w (RetPool w (trimOK ts ss vs now keep) (actR ts ss vs now keep)) := by
  have hlv := Lib.hid hv.1
  have hh := Lib.hid h; have hh' := Lib.hid h'; have hvv := Lib.hid hv; clear h h' hv
  obtain ⟨r1, rR, bW, sW⟩ := bx2_rows w (.slice V m d) (.slice none 0 0) 55 55
  have hc1 := r1.cell (i := 0) (by omega)
  have qR := Lib.hid rR; have u := Lib.hid bW
  clear bW sW rR r1
  cases hg : trimOK ts ss vs now keep
  · have hr := Lib.hid (show actR ts ss vs now keep = [] by unfold actR; rw [if_neg (by rw [hg]; decide)])
    go_enter Try.func43, Try.ntmps43
    go_wp2_with (go_at_call 53; refine (implTrim_any A n c ts A' n' c' ss V m d vs now keep _ (hh.out.up u.out) (hh'.out.up' u.out) (hvv.out.up u.out) hn hn' hm).mono ?_; rw [hg]; rintro e w1 ⟨A1, n1, c1, rfl, o1, b1⟩; have b2 := b1.trans ((bx_below w1 (.cells #[.slice A1 n1 c1] 55)).mono b1.size); replace u := Lib.hid (u.out.trans (b2.mono u.out.size)); replace qR := Lib.hid (rowIs_below qR.out b2 qR.out.lt); clear o1 b1 b2 hc1; have hcR := qR.out.cell (i := 0) (by omega); have hfR := qR.out.frozen 0)
    refine bodyPost_ret (results_row2 rfl _ _ (w.heap.size + 1) 55 #[.slice none 0 0] (0, 0) _ rfl (pl_one_set qR.out _) Try.underlying55 rfl (by kernel_rfl)) rfl ?_
    exact ⟨none, 0, 0, rfl, by rw [hr.out]; exact OwnV.nil _ _, u.out.setCell (by show w.heap.size ≤ w.heap.size + 1; omega) _⟩
  · obtain ⟨f1, f2⟩ := fin_of_trim hg
    have hr := Lib.hid f2
    have hf := Lib.hid f1
    have ht := Lib.hid (show trimR ts ss vs now keep = vs.filter (trimP now keep) by unfold trimR; rw [if_pos hg])
    have h60 := Lib.hid (pool_60 (trimOK_iff.1 hg).1 (trimP now keep))
    clear f1 f2
    go_enter Try.func43, Try.ntmps43
    go_wp2_with (first
      | (go_at_call 53; refine (implTrim_any A n c ts A' n' c' ss V m d vs now keep _ (hh.out.up u.out) (hh'.out.up' u.out) (hvv.out.up u.out) hn hn' hm).mono ?_; rw [hg, ht.out]; rintro e w1 ⟨A1, n1, c1, rfl, o1, b1⟩
         have kk := bx_below w1 (.cells #[.slice A1 n1 c1] 55)
         have x1 := Lib.hid (bx_row w1 (.slice A1 n1 c1) 55)
         have hx1 := x1.out.cell (i := 0) (by omega)
         have o2 := Lib.hid (o1.below kk)
         have b2 := b1.trans (kk.mono b1.size)
         replace u := Lib.hid (u.out.trans (b2.mono u.out.size)); replace qR := Lib.hid (rowIs_below qR.out b2 qR.out.lt); clear o1 b1 b2 hc1 kk)
      | (go_at_call 52; refine (implFinal_any A n c ts A' n' c' ss A1 n1 c1 _ now _ (hh.out.up u.out) (hh'.out.up' u.out) o2.out.votes hn hn' (by have := o2.out.len; have := h60.out; omega)).mono ?_; rw [hf.out, hr.out]; rintro e w3 ⟨A3, n3, c3, rfl, o3, b3⟩
         have o4 := Lib.hid o3
         have lR := Lib.hid qR.out.lt
         replace u := Lib.hid (u.out.trans (b3.mono u.out.size)); replace qR := Lib.hid (rowIs_below qR.out b3 qR.out.lt); clear o3 b3 hx1; have hcR := qR.out.cell (i := 0) (by omega); have hfR := qR.out.frozen 0))
    refine bodyPost_ret (results_row2 rfl _ _ (w.heap.size + 1) 55 #[.slice A3 n3 c3] (0, 0) _ rfl (pl_one_set qR.out _) Try.underlying55 rfl (by kernel_rfl)) rfl ?_
    exact ⟨A3, n3, c3, rfl, (o4.out.setBox lR.out _).fewer (by have := lR.out; omega), u.out.setCell (by show w.heap.size ≤ w.heap.size + 1; omega) _⟩
end Go.Proofs.Ythiegfbdmmpabaa

/- What is proved here: what the model's l8Within, Trim, FinalView and ActiveIn return. No conditions but lengths. -/
namespace Go.Proofs.Ythiegfbdmmpabaa
open Go.RowKit

def RetVs' (w : World) (vs : List Vt) (e : Ending) (w' : World) : Prop :=
  ∃ A n c, e = .returned (.slice A n c) ∧ OwnV w' w.heap.size A n vs ∧ Below w.heap.size w w'
theorem l8Now_any (now keep : Int) (w : World) : Calls Try.prog 113 #[.int .i64 now, .int .i64 keep] w fun e w' => e = .returned (.bool (nowB now && keepB keep)) ∧ w = w' := by
  cases h1 : nowB now
  · have h1' : inB now 1 4000 = false := h1
    go_enter Try.func113, Try.ntmps113
    go_wp2_with (go_at_call 80; refine (l1In_any _ _ _ _).mono ?_; rintro e w' ⟨rfl, rfl⟩; rw [h1'])
    go_ret
    exact ⟨ret_bool (by simp), rfl⟩
  · have h1' : inB now 1 4000 = true := h1
    cases h2 : keepB keep
    all_goals
      have h2' := h2
      unfold keepB at h2'
      go_enter Try.func113, Try.ntmps113
      have tk0 : True := trivial
      go_wp2_with (first
        | (clear tk0; go_at_call 80; refine (l1In_any now 1 4000 _).mono ?_; rintro e w' ⟨rfl, rfl⟩; rw [h1'])
        | (go_at_call 80; refine (l1In_any keep 1 100 _).mono ?_; rintro e w' ⟨rfl, rfl⟩; rw [h2']))
      go_ret
      exact ⟨ret_bool (by simp), rfl⟩

set_option maxRecDepth 100000 in
set_option maxHeartbeats 1600000 in
theorem l8Within_any (V : Option Addr) (m d : Nat) (vs : List Vt) (lo hi : Int) (w : World) (hv : VotesAt w w.heap.size V m vs) (hm : m ≤ 60) :
    Calls Try.prog 114 #[.slice V m d, .int .i64 lo, .int .i64 hi] w (RetVs' w (vs.filter (witP lo hi))) := by
  have hlv := Lib.hid hv.1
  have hvv := Lib.hid hv; clear hv
  go_enter Try.func114, Try.ntmps114
  go_wp2_with fail
  go_loopw [7, 9, 12] (fun o _ i wr => ∃ k : Nat, k ≤ m ∧ i = .int .i64 k ∧ Hid (wr.ownsRow w.heap.size 63 3 o ((vs.take k).filter (witP lo hi)).length (flatV ((vs.take k).filter (witP lo hi)))) ∧ Hid (Below w.heap.size w wr)) (fun _ _ i _ => m - (intOf i).toNat)
  case atStart => exact ⟨0, Nat.zero_le _, rfl, Lib.hid (World.ownsRow_nil _ _ _ _), Lib.hid (Below.refl _ _)⟩
  case round =>
    obtain ⟨k, hk, rfl, ho, hbel⟩ := hrel
    have hws := hbel.out.size
    have hfl := filter_len (witP lo hi) (vs := vs) (k := k) (by rw [hlv.out]; exact hk)
    by_cases hlt : k < m
    · obtain ⟨vb, vo, rfl, hvb, e0', e1', e2'⟩ := hvv.out.2 k hlt
      have e0 := (hbel.out.cell (p := ⟨vb, vo + k * 3, none⟩) hvb).trans e0'
      have e1 := (hbel.out.cell (p := ⟨vb, vo + k * 3 + 1, none⟩) hvb).trans e1'
      have e2 := (hbel.out.cell (p := ⟨vb, vo + k * 3 + 2, none⟩) hvb).trans e2'
      have hstep := Lib.hid (filter_step (witP lo hi) (vs := vs) (k := k) (by rw [hlv.out]; exact hlt))
      obtain ⟨v, hvk⟩ : ∃ v, getV vs k = v := ⟨_, rfl⟩
      rw [hvk] at e0 e1 e2 hstep
      obtain ⟨x, y, z⟩ := v
      simp only at e0 e1 e2
      have hb1 := bx_below wr (.cells #[.int .i64 x, .int .i64 y, .int .i64 z] 63)
      have r3 := three_cells wr x y z 63
      obtain ⟨W, hW⟩ : ∃ W, wr.alloc (.cells #[.int .i64 x, .int .i64 y, .int .i64 z] 63) = W := ⟨_, rfl⟩
      have oE := Lib.hid (ownsV_belowW ho.out hb1)
      have uE := Lib.hid (hbel.out.trans (hb1.mono hws))
      rw [hW] at hb1 r3
      have f0 := r3.cell (i := 0) (by omega)
      have f1 := r3.cell (i := 1) (by omega)
      have f2 := r3.cell (i := 2) (by omega)
      simp only [if_true, if_false, show (1 : Nat) ≠ 0 by decide, show (2 : Nat) ≠ 0 by decide, show (2 : Nat) ≠ 1 by decide] at f0 f1 f2
      have hW' := Lib.hid hW
      have u1 := Lib.hid (hbel.out.trans (hb1.mono hws))
      have o1 := Lib.hid (ownsV_belowW ho.out hb1)
      have hws1 : w.heap.size ≤ W.heap.size := u1.out.size
      have hpd := Lib.hid (show witP lo hi (x, y, z) = (decide (lo ≤ y) && decide (y < hi)) from rfl)
      clear hW hb1 r3 e0' e1' e2' hvk
      by_cases g1 : lo ≤ y
      · by_cases g2 : y < hi
        · have hnx := Lib.hid (show (vs.take (k + 1)).filter (witP lo hi) = (vs.take k).filter (witP lo hi) ++ [(x, y, z)] by rw [hstep.out, hpd.out, decide_eq_true g1, decide_eq_true g2]; rfl)
          have hbox := three_cells (wr.alloc (.cells #[.int .i64 x, .int .i64 y, .int .i64 z] 63)) x y z 63
          rw [show (wr.alloc (.cells #[.int .i64 x, .int .i64 y, .int .i64 z] 63)).heap.size = wr.heap.size + 1 by simp] at hbox
          have g0' := hbox.cell (i := 0) (by omega)
          have g1' := hbox.cell (i := 1) (by omega)
          have g2' := hbox.cell (i := 2) (by omega)
          simp only [if_true, if_false, show (1 : Nat) ≠ 0 by decide, show (2 : Nat) ≠ 0 by decide, show (2 : Nat) ≠ 1 by decide] at g0' g1' g2'
          have F0 := Lib.hid g0'; have F1 := Lib.hid g1'; have F2 := Lib.hid g2'
          clear hbox g0' g1' g2'
          go_wp2_with (at_builtin; refine appendVt _ rfl _ _ 53 rfl w.heap.size Try.underlying53 _ ((vs.take k).filter (witP lo hi)) rfl (oE.out.alloc _) (wr.heap.size + 1) 1 x y z rfl F0.out F1.out F2.out (by omega) (by simp; omega) ?_; intro g c9 w9 r1 r2 r3; have z1 := Lib.hid r1; have z2 := Lib.hid r2; clear r1 r2 r3)
          have u9 := Lib.hid ((uE.out.alloc uE.out.size (.cells #[.int .i64 x, .int .i64 y, .int .i64 z] 63)).grown z2.out (by simp; omega) (fun j e => ((oE.out.alloc (.cells #[.int .i64 x, .int .i64 y, .int .i64 z] 63)).lt j e).1))
          go_roundw
          case rel => exact ⟨k + 1, by omega, by go_num, Lib.hid (by rw [hnx.out]; simpa using z1.out), u9⟩
          case measure => simp [intOf]; omega
        · have hnx := Lib.hid (show (vs.take (k + 1)).filter (witP lo hi) = (vs.take k).filter (witP lo hi) by rw [hstep.out, hpd.out, decide_eq_false g2]; simp)
          go_wp2_with fail
          rw [hW'.out]
          go_wp2_with fail
          go_roundw
          case rel => exact ⟨k + 1, by omega, by go_num, Lib.hid (by rw [hnx.out]; exact o1.out), u1⟩
          case measure => simp [intOf]; omega
      · have hnx := Lib.hid (show (vs.take (k + 1)).filter (witP lo hi) = (vs.take k).filter (witP lo hi) by rw [hstep.out, hpd.out, decide_eq_false g1]; simp)
        go_wp2_with fail
        rw [hW'.out]
        go_wp2_with fail
        go_roundw
        case rel => exact ⟨k + 1, by omega, by go_num, Lib.hid (by rw [hnx.out]; exact o1.out), u1⟩
        case measure => simp [intOf]; omega
    · have hke := Lib.hid (filter_end (witP lo hi) (vs := vs) (k := k) (by rw [hlv.out]; omega))
      go_wp2_with fail
      go_ret
      obtain ⟨A', c', e, hown⟩ := OwnV.of_owns ho.out
      rw [hke.out] at e hown
      exact ⟨A', _, c', by rw [e]; rfl, hown, hbel.out⟩

set_option maxRecDepth 100000 in
set_option maxHeartbeats 1600000 in
theorem specFinal_any (A : Option Addr) (n c : Nat) (ts : List Blk) (A' : Option Addr) (n' c' : Nat) (ss : List Int) (V : Option Addr) (m d : Nat) (vs : List Vt) (now : Int) (w : World) (h : BlksAt w w.heap.size A n ts) (h' : IntsAt w w.heap.size A' n' ss) (hv : VotesAt w w.heap.size V m vs) (hn : n ≤ 1048576) (hn' : n' ≤ 1048576) (hm : m ≤ 1048576) :
    Calls Try.prog 57 #[.slice A n c, .slice A' n' c', .agg #[.slice V m d], .int .i64 now] w (RetPool w (finOK ts ss vs now) (finR ts ss vs now)) := by
  have hlv := Lib.hid hv.1
  have hh := Lib.hid h; have hh' := Lib.hid h'; have hvv := Lib.hid hv; clear h h' hv
  have hmf : ∀ (fn : Fn) (first cap : Array Value) (w : World), (Instr.makeFunc fn first cap).run Try.prog w = .ok (.func fn first cap) w := fun _ _ _ _ => rfl
  obtain ⟨r1, rR, bW, sW⟩ := bx2_rows w (.slice V m d) (.slice none 0 0) 55 55
  have hc1 := r1.cell (i := 0) (by omega)
  have q1 := Lib.hid r1
  have qR := Lib.hid rR; have u := Lib.hid bW
  clear bW sW rR r1
  cases hg : poolOk ts ss vs
  · skip
    have hok := Lib.hid (show (finOK ts ss vs now) = false by unfold finOK; rw [hg]; rfl)
    have hr := Lib.hid (show (finR ts ss vs now) = [] by unfold finR; rw [if_neg (by rw [hok.out]; decide)])
    go_enter Try.func57, Try.ntmps57
    go_wp2_with (first
      | (go_at_call 112; refine (specGoodPool_any A n c ts A' n' c' ss V m d vs _ (hh.out.up u.out) (hh'.out.up' u.out) (hvv.out.up u.out) hn hn' hm).mono ?_; rintro e w1 ⟨rfl, b1⟩; rw [hg]; replace u := Lib.hid (u.out.trans (b1.mono u.out.size)); replace q1 := Lib.hid (rowIs_below q1.out b1 q1.out.lt); replace qR := Lib.hid (rowIs_below qR.out b1 qR.out.lt); clear b1 hc1; have hc1 := q1.out.cell (i := 0) (by omega); have hcR := qR.out.cell (i := 0) (by omega); have hfR := qR.out.frozen 0))
    refine bodyPost_ret (results_row2 rfl _ _ (w.heap.size + 1) 55 #[.slice none 0 0] (0, 0) _ rfl (pl_one_set qR.out _) Try.underlying55 rfl (by kernel_rfl)) rfl ?_
    exact ⟨none, 0, 0, by rw [hok.out]; rfl, by rw [hr.out]; exact OwnV.nil _ _, u.out.setCell (by show w.heap.size ≤ w.heap.size + 1; omega) _⟩
  · skip
    cases hnow : nowB now
    · skip
      have hok := Lib.hid (show (finOK ts ss vs now) = false by unfold finOK; rw [hnow]; simp)
      have hr := Lib.hid (show (finR ts ss vs now) = [] by unfold finR; rw [if_neg (by rw [hok.out]; decide)])
      go_enter Try.func57, Try.ntmps57
      go_wp2_with (first
        | (go_at_call 112; refine (specGoodPool_any A n c ts A' n' c' ss V m d vs _ (hh.out.up u.out) (hh'.out.up' u.out) (hvv.out.up u.out) hn hn' hm).mono ?_; rintro e w1 ⟨rfl, b1⟩; rw [hg]; replace u := Lib.hid (u.out.trans (b1.mono u.out.size)); replace q1 := Lib.hid (rowIs_below q1.out b1 q1.out.lt); replace qR := Lib.hid (rowIs_below qR.out b1 qR.out.lt); clear b1 hc1; have hc1 := q1.out.cell (i := 0) (by omega); have hcR := qR.out.cell (i := 0) (by omega); have hfR := qR.out.frozen 0)
        | (go_at_call 80; refine (l1In_any now 1 4000 _).mono ?_; rintro e w2 ⟨rfl, rfl⟩; rw [show inB now 1 4000 = nowB now from rfl, hnow]))
      refine bodyPost_ret (results_row2 rfl _ _ (w.heap.size + 1) 55 #[.slice none 0 0] (0, 0) _ rfl (pl_one_set qR.out _) Try.underlying55 rfl (by kernel_rfl)) rfl ?_
      exact ⟨none, 0, 0, by rw [hok.out]; rfl, by rw [hr.out]; exact OwnV.nil _ _, u.out.setCell (by show w.heap.size ≤ w.heap.size + 1; omega) _⟩
    · skip
      have hok := Lib.hid (show (finOK ts ss vs now) = true by unfold finOK; rw [hg, hnow]; rfl)
      have hr := Lib.hid (show (finR ts ss vs now) = vs.filter (witP 0 now) by unfold finR; rw [if_pos hok.out]; exact (wit_fin hg now).symm)
      have hm60 : m ≤ 60 := by rw [← hlv.out]; exact (poolOk_iff.1 hg).1.2
      skip
      go_enter Try.func57, Try.ntmps57
      go_wp2_with (first
        | (go_at_call 112; refine (specGoodPool_any A n c ts A' n' c' ss V m d vs _ (hh.out.up u.out) (hh'.out.up' u.out) (hvv.out.up u.out) hn hn' hm).mono ?_; rintro e w1 ⟨rfl, b1⟩; rw [hg]; replace u := Lib.hid (u.out.trans (b1.mono u.out.size)); replace q1 := Lib.hid (rowIs_below q1.out b1 q1.out.lt); replace qR := Lib.hid (rowIs_below qR.out b1 qR.out.lt); clear b1 hc1; have hc1 := q1.out.cell (i := 0) (by omega); have hcR := qR.out.cell (i := 0) (by omega); have hfR := qR.out.frozen 0)
        | (go_at_call 80; refine (l1In_any now 1 4000 _).mono ?_; rintro e w2 ⟨rfl, rfl⟩; rw [show inB now 1 4000 = nowB now from rfl, hnow])
        | (go_at_call 114
           refine (l8Within_any V m d vs (0) (now) _ (hvv.out.up u.out) hm60).mono ?_
           rintro e w3 ⟨A3, n3, c3, rfl, o3, b3⟩
           have o4 := Lib.hid o3
           have lR := Lib.hid qR.out.lt
           replace u := Lib.hid (u.out.trans (b3.mono u.out.size))
           replace qR := Lib.hid (rowIs_below qR.out b3 qR.out.lt)
           clear hcR hfR o3 b3 hc1
           have hcR := qR.out.cell (i := 0) (by omega)
           have hfR := qR.out.frozen 0))
      refine bodyPost_ret (results_row2 rfl _ _ (w.heap.size + 1) 55 #[.slice A3 n3 c3] (0, 0) _ rfl (pl_one_set qR.out _) Try.underlying55 rfl (by kernel_rfl)) rfl ?_
      exact ⟨A3, n3, c3, by rw [hok.out]; rfl, by rw [hr.out]; exact (o4.out.setBox lR.out _).fewer (by have := lR.out; omega), u.out.setCell (by show w.heap.size ≤ w.heap.size + 1; omega) _⟩

set_option maxRecDepth 100000 in
set_option maxHeartbeats 1600000 in
theorem specActive_any (A : Option Addr) (n c : Nat) (ts : List Blk) (A' : Option Addr) (n' c' : Nat) (ss : List Int) (V : Option Addr) (m d : Nat) (vs : List Vt) (now : Int) (keep : Int) (w : World) (h : BlksAt w w.heap.size A n ts) (h' : IntsAt w w.heap.size A' n' ss) (hv : VotesAt w w.heap.size V m vs) (hn : n ≤ 1048576) (hn' : n' ≤ 1048576) (hm : m ≤ 1048576) :
    Calls Try.prog 44 #[.slice A n c, .slice A' n' c', .agg #[.slice V m d], .int .i64 now, .int .i64 keep] w (RetPool w (trimOK ts ss vs now keep) (actR ts ss vs now keep)) := by
  have hlv := Lib.hid hv.1
  have hh := Lib.hid h; have hh' := Lib.hid h'; have hvv := Lib.hid hv; clear h h' hv
  have hmf : ∀ (fn : Fn) (first cap : Array Value) (w : World), (Instr.makeFunc fn first cap).run Try.prog w = .ok (.func fn first cap) w := fun _ _ _ _ => rfl
  obtain ⟨r1, rR, bW, sW⟩ := bx2_rows w (.slice V m d) (.slice none 0 0) 55 55
  have hc1 := r1.cell (i := 0) (by omega)
  have q1 := Lib.hid r1
  have qR := Lib.hid rR; have u := Lib.hid bW
  clear bW sW rR r1
  cases hg : poolOk ts ss vs
  · skip
    have hok := Lib.hid (show (trimOK ts ss vs now keep) = false by unfold trimOK; rw [hg]; rfl)
    have hr := Lib.hid (show (actR ts ss vs now keep) = [] by unfold actR; rw [if_neg (by rw [hok.out]; decide)])
    go_enter Try.func44, Try.ntmps44
    go_wp2_with (first
      | (go_at_call 112; refine (specGoodPool_any A n c ts A' n' c' ss V m d vs _ (hh.out.up u.out) (hh'.out.up' u.out) (hvv.out.up u.out) hn hn' hm).mono ?_; rintro e w1 ⟨rfl, b1⟩; rw [hg]; replace u := Lib.hid (u.out.trans (b1.mono u.out.size)); replace q1 := Lib.hid (rowIs_below q1.out b1 q1.out.lt); replace qR := Lib.hid (rowIs_below qR.out b1 qR.out.lt); clear b1 hc1; have hc1 := q1.out.cell (i := 0) (by omega); have hcR := qR.out.cell (i := 0) (by omega); have hfR := qR.out.frozen 0))
    refine bodyPost_ret (results_row2 rfl _ _ (w.heap.size + 1) 55 #[.slice none 0 0] (0, 0) _ rfl (pl_one_set qR.out _) Try.underlying55 rfl (by kernel_rfl)) rfl ?_
    exact ⟨none, 0, 0, by rw [hok.out]; rfl, by rw [hr.out]; exact OwnV.nil _ _, u.out.setCell (by show w.heap.size ≤ w.heap.size + 1; omega) _⟩
  · skip
    cases hnk : (nowB now && keepB keep)
    · skip
      have hok := Lib.hid (show (trimOK ts ss vs now keep) = false by unfold trimOK; rw [hnk]; simp)
      have hr := Lib.hid (show (actR ts ss vs now keep) = [] by unfold actR; rw [if_neg (by rw [hok.out]; decide)])
      go_enter Try.func44, Try.ntmps44
      go_wp2_with (first
        | (go_at_call 112; refine (specGoodPool_any A n c ts A' n' c' ss V m d vs _ (hh.out.up u.out) (hh'.out.up' u.out) (hvv.out.up u.out) hn hn' hm).mono ?_; rintro e w1 ⟨rfl, b1⟩; rw [hg]; replace u := Lib.hid (u.out.trans (b1.mono u.out.size)); replace q1 := Lib.hid (rowIs_below q1.out b1 q1.out.lt); replace qR := Lib.hid (rowIs_below qR.out b1 qR.out.lt); clear b1 hc1; have hc1 := q1.out.cell (i := 0) (by omega); have hcR := qR.out.cell (i := 0) (by omega); have hfR := qR.out.frozen 0)
        | (go_at_call 113; refine (l8Now_any now keep _).mono ?_; rintro e w2 ⟨rfl, rfl⟩; rw [hnk]))
      refine bodyPost_ret (results_row2 rfl _ _ (w.heap.size + 1) 55 #[.slice none 0 0] (0, 0) _ rfl (pl_one_set qR.out _) Try.underlying55 rfl (by kernel_rfl)) rfl ?_
      exact ⟨none, 0, 0, by rw [hok.out]; rfl, by rw [hr.out]; exact OwnV.nil _ _, u.out.setCell (by show w.heap.size ≤ w.heap.size + 1; omega) _⟩
    · skip
      have hok := Lib.hid (show (trimOK ts ss vs now keep) = true by unfold trimOK; rw [hg, hnk]; rfl)
      have hr := Lib.hid (show (actR ts ss vs now keep) = vs.filter (witP (now - keep) now) by unfold actR; rw [if_pos hok.out])
      have hm60 : m ≤ 60 := by rw [← hlv.out]; exact (poolOk_iff.1 hg).1.2
      have bnk := (trimOK_iff.1 hok.out).2
      go_enter Try.func44, Try.ntmps44
      go_wp2_with (first
        | (go_at_call 112; refine (specGoodPool_any A n c ts A' n' c' ss V m d vs _ (hh.out.up u.out) (hh'.out.up' u.out) (hvv.out.up u.out) hn hn' hm).mono ?_; rintro e w1 ⟨rfl, b1⟩; rw [hg]; replace u := Lib.hid (u.out.trans (b1.mono u.out.size)); replace q1 := Lib.hid (rowIs_below q1.out b1 q1.out.lt); replace qR := Lib.hid (rowIs_below qR.out b1 qR.out.lt); clear b1 hc1; have hc1 := q1.out.cell (i := 0) (by omega); have hcR := qR.out.cell (i := 0) (by omega); have hfR := qR.out.frozen 0)
        | (go_at_call 113; refine (l8Now_any now keep _).mono ?_; rintro e w2 ⟨rfl, rfl⟩; rw [hnk])
        | (go_at_call 114
           refine (l8Within_any V m d vs (now - keep) (now) _ (hvv.out.up u.out) hm60).mono ?_
           rintro e w3 ⟨A3, n3, c3, rfl, o3, b3⟩
           have o4 := Lib.hid o3
           have lR := Lib.hid qR.out.lt
           replace u := Lib.hid (u.out.trans (b3.mono u.out.size))
           replace qR := Lib.hid (rowIs_below qR.out b3 qR.out.lt)
           clear hcR hfR o3 b3 hc1
           have hcR := qR.out.cell (i := 0) (by omega)
           have hfR := qR.out.frozen 0))
      refine bodyPost_ret (results_row2 rfl _ _ (w.heap.size + 1) 55 #[.slice A3 n3 c3] (0, 0) _ rfl (pl_one_set qR.out _) Try.underlying55 rfl (by kernel_rfl)) rfl ?_
      exact ⟨A3, n3, c3, by rw [hok.out]; rfl, by rw [hr.out]; exact (o4.out.setBox lR.out _).fewer (by have := lR.out; omega), u.out.setCell (by show w.heap.size ≤ w.heap.size + 1; omega) _⟩

end Go.Proofs.Ythiegfbdmmpabaa
