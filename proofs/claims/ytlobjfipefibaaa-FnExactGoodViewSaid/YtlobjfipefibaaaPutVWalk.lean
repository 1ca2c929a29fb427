/- What is proved here: what the model's l6Put returns. No conditions but lengths. -/
import Derived.Test.YtlobjfipefibaaaPutVSpec
namespace Go.Proofs.Ytlobjfipefibaaa
open Go.RowKit

/-- A slice of votes that a call hands back: it may be an argument's own. -/
def RetL (w : World) (vs : List Vt) (e : Ending) (w' : World) : Prop :=
  ∃ A n c, e = .returned (.slice A n c) ∧ VotesAt w' w'.heap.size A n vs ∧ n ≤ c ∧ (A = none → n = 0 ∧ c = 0) ∧ Below w.heap.size w w'

theorem votes_cell {w : World} {B b off n : Nat} {vs : List Vt} (h : VotesAt w B (some ⟨b, off, none⟩) n vs) {t : Nat} (ht : t < n * 3) : w.cell? ⟨b, off + t, none⟩ = some (cellsV vs t) := by
  obtain ⟨b', off', e, _, c0, c1, c2⟩ := h.2 (t / 3) (by omega)
  cases e
  have h3 : t % 3 = 0 ∨ t % 3 = 1 ∨ t % 3 = 2 := by omega
  unfold cellsV
  rcases h3 with h | h | h
  · rw [if_pos h, show off + t = off + t / 3 * 3 by omega]; exact c0
  · rw [if_neg (by omega), if_pos h, show off + t = off + t / 3 * 3 + 1 by omega]; exact c1
  · rw [if_neg (by omega), if_neg (by omega), show off + t = off + t / 3 * 3 + 2 by omega]; exact c2
theorem cells_take {l : List Vt} {k t : Nat} (ht : t < k * 3) (_hk : k ≤ l.length) : cellsV (l.take k) t = cellsV l t := by
  unfold cellsV getV
  rw [List.getElem?_take_of_lt (by omega)]
theorem cells_drop {l : List Vt} {k t : Nat} : cellsV (l.drop k) t = cellsV l (k * 3 + t) := by
  unfold cellsV getV
  rw [List.getElem?_drop, show (k * 3 + t) % 3 = t % 3 by omega, show (k * 3 + t) / 3 = k + t / 3 by omega]
theorem own_cap {w : World} {B n c : Nat} {A : Option Addr} {v : Value} {xs : List Value} (h : w.ownsRow B 53 3 v n xs) (e : v = .slice A n c) : n ≤ c ∧ (A = none → n = 0 ∧ c = 0) := by
  subst e
  rcases h.2 with ⟨e, rfl⟩ | ⟨g, cap, cur, e, _, _, hn, _⟩
  · injection e with e1 _ e3; subst e1; subst e3; exact ⟨Nat.le_refl _, fun _ => ⟨rfl, rfl⟩⟩
  · injection e with e1 _ e3; subst e1; subst e3; exact ⟨hn, fun h => by cases h⟩

set_option maxRecDepth 100000 in
set_option maxHeartbeats 6400000 in
theorem l6Put_any (A : Option Addr) (n c : Nat) (l : List Vt) (x1 x2 x3 : Int) (w : World) (hv : VotesAt w w.heap.size A n l) (hn : n ≤ 1048576) (hcap : n ≤ c) (hnil : A = none → n = 0 ∧ c = 0) :
    Calls Try.prog 80 #[.slice A n c, .agg #[.int .i64 x1, .int .i64 x2, .int .i64 x3]] w (RetL w (putV l (x1, x2, x3))) := by
  have hl := Lib.hid hv.1
  have hvv := Lib.hid hv; clear hv
  have hnil' := Lib.hid hnil; clear hnil
  have r3 := three_cells w x1 x2 x3 53
  have hb0 := bx_below w (.cells #[.int .i64 x1, .int .i64 x2, .int .i64 x3] 53)
  obtain ⟨W, hW⟩ : ∃ W, w.alloc (.cells #[.int .i64 x1, .int .i64 x2, .int .i64 x3] 53) = W := ⟨_, rfl⟩
  rw [hW] at r3 hb0
  have e0 := r3.cell (i := 0) (by omega)
  have e1 := r3.cell (i := 1) (by omega)
  have e2 := r3.cell (i := 2) (by omega)
  simp only [if_true, if_false, show (1 : Nat) ≠ 0 by decide, show (2 : Nat) ≠ 0 by decide, show (2 : Nat) ≠ 1 by decide] at e0 e1 e2
  have b0 := Lib.hid e0; have b1 := Lib.hid e1; have b2 := Lib.hid e2
  have hwl := Lib.hid r3.lt
  have hbW := Lib.hid hb0
  have hW' := Lib.hid hW
  have hKle := putKV_le l (x1, x2, x3)
  rw [hl.out] at hKle
  obtain ⟨K, hK⟩ : ∃ K, putKV l (x1, x2, x3) = K := ⟨_, rfl⟩
  have hKK := Lib.hid hK
  rw [hK] at hKle
  clear r3 hb0 hW e0 e1 e2 hK
  go_enter Try.func80, Try.ntmps80
  go_wp2_with fail
  rw [hW'.out]
  go_loopw [5] (fun i wr => ∃ k : Nat, k ≤ K ∧ i = .int .i64 k ∧ Hid (Below W.heap.size W wr)) (fun i _ => K - (intOf i).toNat)
  case atStart => exact ⟨0, Nat.zero_le _, rfl, Lib.hid (Below.refl _ _)⟩
  case round =>
    obtain ⟨k, hk, rfl, hbel⟩ := hrel
    have c0 := (hbel.out.cell (p := ⟨w.heap.size, 0, none⟩) hwl.out).trans b0.out
    have c1 := (hbel.out.cell (p := ⟨w.heap.size, 1, none⟩) hwl.out).trans b1.out
    have c2 := (hbel.out.cell (p := ⟨w.heap.size, 2, none⟩) hwl.out).trans b2.out
    have E0 := cell_regrown c0; have E1 := cell_regrown c1; have E2 := cell_regrown c2
    have bw := Lib.hid (hbW.out.trans (hbel.out.mono hbW.out.size))
    clear c0 c1 c2
    by_cases hkn : k < n
    · have hdn : decide ((k : Int) < (n : Int)) = true := decide_eq_true (by omega)
      have hknI : (k : Int) < (n : Int) := by omega
      obtain ⟨vb, vo, rfl, hvb, q0', q1', q2'⟩ := hvv.out.2 k hkn
      have P0 := cell_regrown ((bw.out.cell (p := ⟨vb, vo + k * 3, none⟩) hvb).trans q0')
      have P1 := cell_regrown ((bw.out.cell (p := ⟨vb, vo + k * 3 + 1, none⟩) hvb).trans q1')
      have P2 := cell_regrown ((bw.out.cell (p := ⟨vb, vo + k * 3 + 2, none⟩) hvb).trans q2')
      obtain ⟨a, ha⟩ : ∃ a, getV l k = a := ⟨_, rfl⟩
      rw [ha] at P0 P1 P2
      have haa := Lib.hid ha
      obtain ⟨a1, a2, a3⟩ := a
      simp only at P0 P1 P2
      have cL := fun (d : Nat) (os : Array Obj) => Calls.regrown_of (w := wr) (l6Less_any a1 a2 a3 x1 x2 x3 (Sort.grow (redrawn wr d) os))
      clear q0' q1' q2' ha
      by_cases hkK : k < K
      · have hls := putKV_lt (l := l) (x := (x1, x2, x3)) (j := k) (by rw [hKK.out]; exact hkK)
        rw [haa.out] at hls
        rw [hls] at cL
        have cL' := Lib.hid cL
        clear cL hls
        go_wp2_with fail
        refine wp_region_quiet_below (by kernel_rfl) (by kernel_rfl) ?_
        repeat (go_big_quiet_step (exact cL'.out _ _))
        refine wpQuiet_nil ?_
        intro _ hw'
        obtain ⟨⟨dq, osq⟩, hw''⟩ := hw'
        subst hw''
        have uX := Lib.hid (hbel.out.trans ((below_regrown wr dq osq).mono hbel.out.size))
        obtain ⟨X, hX⟩ : ∃ X, Sort.grow (redrawn wr dq) osq = X := ⟨_, rfl⟩
        rw [hX] at uX
        rw [hX]
        clear hX
        clear E0 E1 E2 P0 P1 P2
        go_wp2_with fail
        go_roundw
        case rel => exact ⟨k + 1, by omega, by go_num, uX⟩
        case measure => simp [intOf]; omega
      · have hkE : k = K := by omega
        subst hkE
        have hls := putKV_at (l := l) (x := (x1, x2, x3)) (by rw [hKK.out, hl.out]; exact hkn)
        rw [hKK.out, haa.out] at hls
        rw [hls] at cL
        have cL' := Lib.hid cL
        clear cL hls
        go_wp2_with fail
        refine wp_region_quiet_below (by kernel_rfl) (by kernel_rfl) ?_
        repeat (go_big_quiet_step (exact cL'.out _ _))
        refine wpQuiet_nil ?_
        intro _ hw'
        obtain ⟨⟨dq, osq⟩, hw''⟩ := hw'
        subst hw''
        have uX := Lib.hid (hbel.out.trans ((below_regrown wr dq osq).mono hbel.out.size))
        obtain ⟨X, hX⟩ : ∃ X, Sort.grow (redrawn wr dq) osq = X := ⟨_, rfl⟩
        rw [hX] at uX
        rw [hX]
        clear hX
        clear E0 E1 E2 P0 P1 P2
        have z0 := (uX.out.cell (p := ⟨w.heap.size, 0, none⟩) hwl.out).trans b0.out
        have z1 := (uX.out.cell (p := ⟨w.heap.size, 1, none⟩) hwl.out).trans b1.out
        have z2 := (uX.out.cell (p := ⟨w.heap.size, 2, none⟩) hwl.out).trans b2.out
        have bX := Lib.hid (hbW.out.trans (uX.out.mono hbW.out.size))
        obtain ⟨_, _, e', _, q0', q1', q2'⟩ := hvv.out.2 k hkn
        cases e'
        have p0 := (bX.out.cell (p := ⟨vb, vo + k * 3, none⟩) hvb).trans q0'
        have p1 := (bX.out.cell (p := ⟨vb, vo + k * 3 + 1, none⟩) hvb).trans q1'
        have p2 := (bX.out.cell (p := ⟨vb, vo + k * 3 + 2, none⟩) hvb).trans q2'
        rw [haa.out] at p0 p1 p2
        simp only at p0 p1 p2
        clear q0' q1' q2'
        by_cases heq : (a1, a2, a3) = (x1, x2, x3)
        · have hpe := Lib.hid (show putV l (x1, x2, x3) = l by
            unfold putV; rw [hKK.out, if_pos]
            have := haa.out; rw [getV_at (by rw [hl.out]; exact hkn)] at this
            rw [List.getElem?_eq_getElem (by rw [hl.out]; exact hkn), this, heq])
          injection heq with g1 g2
          injection g2 with g2 g3
          subst g1; subst g2; subst g3
          go_wp2_with fail
          go_quiet (fail)
          go_wp2_with fail
          go_ret
          have bZ := below_drewN bX.out nq
          exact ⟨some ⟨vb, vo, none⟩, n, c, rfl, by rw [hpe.out]; exact hvv.out.up bZ, hcap, hnil'.out, bZ⟩
        · have hne3 : (a1 == x1) = false ∨ ((a1 == x1) = true ∧ (a2 == x2) = false) ∨ ((a1 == x1) = true ∧ (a2 == x2) = true ∧ (a3 == x3) = false) := by
            cases h1 : (a1 == x1)
            · exact .inl rfl
            · cases h2 : (a2 == x2)
              · exact .inr (.inl ⟨rfl, rfl⟩)
              · cases h3 : (a3 == x3)
                · exact .inr (.inr ⟨rfl, rfl, rfl⟩)
                · exact absurd (by rw [eq_of_beq h1, eq_of_beq h2, eq_of_beq h3]) heq
          have hat := Lib.hid (show ¬ l[k]? = some (x1, x2, x3) by
            intro h
            have := haa.out; rw [getV_at (by rw [hl.out]; exact hkn)] at this
            rw [List.getElem?_eq_getElem (by rw [hl.out]; exact hkn), this] at h
            injection h with h; exact heq h)
          clear heq
          rcases hne3 with h1 | ⟨h1, h2⟩ | ⟨h1, h2, h3⟩
          all_goals
            go_wp2_with fail
            go_quiet (fail)
            obtain ⟨Y, hY⟩ : ∃ Y, X.drewN nq = Y := ⟨_, rfl⟩
            have uY := Lib.hid (show Below W.heap.size W Y by rw [← hY]; exact below_drewN uX.out nq)
            rw [hY]
            clear hY
            have bY := Lib.hid (hbW.out.trans (uY.out.mono hbW.out.size))
            have y0 := (uY.out.cell (p := ⟨w.heap.size, 0, none⟩) hwl.out).trans b0.out
            have y1 := (uY.out.cell (p := ⟨w.heap.size, 1, none⟩) hwl.out).trans b1.out
            have y2 := (uY.out.cell (p := ⟨w.heap.size, 2, none⟩) hwl.out).trans b2.out
            have Y0 := Lib.hid y0; have Y1 := Lib.hid y1; have Y2 := Lib.hid y2
            have hlY := Lib.hid (Nat.lt_of_lt_of_le hwl.out uY.out.size)
            clear y0 y1 y2
            have s0 := Lib.hid (World.ownsRow_made (base := Y.heap.size) (e := 53) (size := 3) Y #[] 0 (Nat.le_refl _) (by decide) rfl)
            have hvY := Lib.hid (show VotesAt Y Y.heap.size (some ⟨vb, vo, none⟩) n l from hvv.out.up bY.out)
            have tl := Lib.hid (show (l.take k).length = k by rw [List.length_take, hl.out]; omega)
            have dl := Lib.hid (show (l.drop k).length = n - k by rw [List.length_drop, hl.out])
            have hkc : k ≤ c := by omega
            have b0Y : Below Y.heap.size Y (Y.alloc (.cells #[] 53)) := bx_below Y _
            have B0Y := Lib.hid b0Y
            clear b0Y
            have tk0 : True := trivial
            go_wp2_with (first
              | (clear tk0; at_builtin
                 refine appendSlV _ rfl (.tmp 34) (.tmp 37) 27 rfl Y.heap.size Try.underlying27 _ [] rfl s0.out _ _ _ (l.take k) tl.out rfl (fun e => by cases e) (fun ad e t ht => by cases e; rw [Addr.add_lit, cells_take (by omega) (by rw [hl.out]; omega)]; exact (B0Y.out.cell (p := ⟨vb, vo + t, none⟩) (Nat.lt_of_lt_of_le hvb bY.out.size)).trans (votes_cell hvY.out (by omega))) (by simp; omega) (by simp) ?_
                 intro v1 w1 o1 g1 a1
                 obtain ⟨T1, hT⟩ : ∃ T1, ([] : List Vt) ++ l.take k = T1 := ⟨_, rfl⟩
                 have hTk : T1.length ≤ 1048576 := (by rw [← hT, List.nil_append, tl.out]; omega)
                 rw [hT] at o1
                 have hT' := Lib.hid hT
                 clear hT
                 have f1 := Lib.hid (((Below.refl Y.heap.size Y).alloc (Nat.le_refl _) (.cells #[] 53)).grown g1 (by simp) (fun q e => by cases e; exact Nat.le_refl _))
                 have o1' := Lib.hid o1
                 have s1 := f1.out.size
                 have h0 := (f1.out.cell (p := ⟨w.heap.size, 0, none⟩) hlY.out).trans Y0.out
                 have h1 := (f1.out.cell (p := ⟨w.heap.size, 1, none⟩) hlY.out).trans Y1.out
                 have h2 := (f1.out.cell (p := ⟨w.heap.size, 2, none⟩) hlY.out).trans Y2.out
                 have hbox := three_cells w1 x1 x2 x3 53
                 have k0 := hbox.cell (i := 0) (by omega)
                 have k1 := hbox.cell (i := 1) (by omega)
                 have k2 := hbox.cell (i := 2) (by omega)
                 simp only [if_true, if_false, show (1 : Nat) ≠ 0 by decide, show (2 : Nat) ≠ 0 by decide, show (2 : Nat) ≠ 1 by decide] at k0 k1 k2
                 have K0 := Lib.hid k0; have K1 := Lib.hid k1; have K2 := Lib.hid k2
                 clear hbox k0 k1 k2 o1 g1 a1
                 have tk1 : True := trivial)
              | (clear tk1; at_builtin
                 refine appendVt _ rfl (.tmp 39) (.tmp 41) 27 rfl Y.heap.size Try.underlying27 _ T1 rfl (o1'.out.alloc _) w1.heap.size 1 x1 x2 x3 rfl K0.out K1.out K2.out hTk (by simp; omega) ?_
                 intro g9 c9 w2 o2 g2 a2
                 have f2 := Lib.hid ((f1.out.alloc s1 (.cells #[.int .i64 x1, .int .i64 x2, .int .i64 x3] 53)).grown g2 (by simp; omega) (fun q e => ((o1'.out.alloc (.cells #[.int .i64 x1, .int .i64 x2, .int .i64 x3] 53)).lt q e).1))
                 have o2' := Lib.hid o2
                 have s2 := f2.out.size
                 clear o2 g2 a2 h0 h1 h2
                 have tk2 : True := trivial)
              | (clear tk2; at_builtin
                 refine appendSlV _ rfl (.tmp 43) (.tmp 46) 27 rfl Y.heap.size Try.underlying27 _ (T1 ++ [(x1, x2, x3)]) rfl o2'.out _ _ _ (l.drop k) dl.out rfl (fun e => by cases e) (fun ad e t ht => by cases e; rw [Addr.add_lit, cells_drop, Nat.add_assoc]; exact (f2.out.cell (p := ⟨vb, vo + (k * 3 + t), none⟩) (Nat.lt_of_lt_of_le hvb bY.out.size)).trans (votes_cell hvY.out (by omega))) (by first | (simp; done) | (rw [List.length_append]; simp; omega)) (by omega) ?_
                 intro v3 w3 o3 g3 a3
                 have f3 := Lib.hid (f2.out.grown g3 (by omega) (fun q e => (o2'.out.lt q e).1))
                 have o3' := Lib.hid o3
                 clear o3 g3 a3))
            go_ret
            have hput := Lib.hid (show putV l (x1, x2, x3) = T1 ++ [(x1, x2, x3)] ++ l.drop k by
              unfold putV; rw [← hT'.out, hKK.out, if_neg (hat.out), List.nil_append, List.append_assoc]; rfl)
            have o4 := o3'.out
            rw [← hput.out] at o4
            obtain ⟨A9, c9', e9, o9⟩ := OwnV.of_owns o4
            exact ⟨A9, _, c9', by rw [e9]; rfl, o9.votes, by have := own_cap o4 e9; exact this.1, by have := own_cap o4 e9; exact this.2, bY.out.trans (f3.out.mono bY.out.size)⟩
    · have hkE : k = K := by omega
      have hkn1 : k ≤ n := by omega
      have hdn : decide ((k : Int) < (n : Int)) = false := decide_eq_false (by omega)
      subst hkE
      go_wp2_with fail
      refine wp_region_quiet_below (by kernel_rfl) (by kernel_rfl) ?_
      repeat (go_big_quiet_step (fail))
      refine wpQuiet_nil ?_
      intro _ hw'
      obtain ⟨⟨dq, osq⟩, hw''⟩ := hw'
      subst hw''
      have uX := Lib.hid (hbel.out.trans ((below_regrown wr dq osq).mono hbel.out.size))
      obtain ⟨X, hX⟩ : ∃ X, Sort.grow (redrawn wr dq) osq = X := ⟨_, rfl⟩
      rw [hX] at uX
      rw [hX]
      clear hX
      clear E0 E1 E2
      have hat := Lib.hid (show ¬ l[k]? = some (x1, x2, x3) by
        rw [List.getElem?_eq_none (by rw [hl.out]; omega)]; intro e; cases e)
      cases A with
      | none =>
        obtain ⟨hn0, hc0⟩ := hnil'.out rfl
        subst hn0; subst hc0
        obtain rfl : k = 0 := by omega
        go_wp2_with fail
        go_quiet (fail)
        obtain ⟨Y, hY⟩ : ∃ Y, X.drewN nq = Y := ⟨_, rfl⟩
        have uY := Lib.hid (show Below W.heap.size W Y by rw [← hY]; exact below_drewN uX.out nq)
        rw [hY]
        clear hY
        have bY := Lib.hid (hbW.out.trans (uY.out.mono hbW.out.size))
        have y0 := (uY.out.cell (p := ⟨w.heap.size, 0, none⟩) hwl.out).trans b0.out
        have y1 := (uY.out.cell (p := ⟨w.heap.size, 1, none⟩) hwl.out).trans b1.out
        have y2 := (uY.out.cell (p := ⟨w.heap.size, 2, none⟩) hwl.out).trans b2.out
        have Y0 := Lib.hid y0; have Y1 := Lib.hid y1; have Y2 := Lib.hid y2
        have hlY := Lib.hid (Nat.lt_of_lt_of_le hwl.out uY.out.size)
        clear y0 y1 y2
        have s0 := Lib.hid (World.ownsRow_made (base := Y.heap.size) (e := 53) (size := 3) Y #[] 0 (Nat.le_refl _) (by decide) rfl)
        have hvY := Lib.hid (show VotesAt Y Y.heap.size none 0 l from hvv.out.up bY.out)
        have tl := Lib.hid (show (l.take 0).length = 0 by rw [List.length_take, hl.out]; omega)
        have dl := Lib.hid (show (l.drop 0).length = 0 - 0 by rw [List.length_drop, hl.out])
        have hkc : 0 ≤ 0 := by omega
        have b0Y : Below Y.heap.size Y (Y.alloc (.cells #[] 53)) := bx_below Y _
        have B0Y := Lib.hid b0Y
        clear b0Y
        have w1s : Y.heap.size < (Y.alloc (.cells #[] 53)).heap.size := by simp
        have f1 := B0Y
        have s1 := f1.out.size
        have h0 := (f1.out.cell (p := ⟨w.heap.size, 0, none⟩) hlY.out).trans Y0.out
        have h1 := (f1.out.cell (p := ⟨w.heap.size, 1, none⟩) hlY.out).trans Y1.out
        have h2 := (f1.out.cell (p := ⟨w.heap.size, 2, none⟩) hlY.out).trans Y2.out
        have hbox := three_cells (Y.alloc (.cells #[] 53)) x1 x2 x3 53
        rw [show (Y.alloc (.cells #[] 53)).heap.size = Y.heap.size + 1 by simp] at hbox
        have k0 := hbox.cell (i := 0) (by omega)
        have k1 := hbox.cell (i := 1) (by omega)
        have k2 := hbox.cell (i := 2) (by omega)
        simp only [if_true, if_false, show (1 : Nat) ≠ 0 by decide, show (2 : Nat) ≠ 0 by decide, show (2 : Nat) ≠ 1 by decide] at k0 k1 k2
        have K0 := Lib.hid k0; have K1 := Lib.hid k1; have K2 := Lib.hid k2
        have hT' := Lib.hid (show ([] : List Vt) ++ l.take 0 = [] by simp)
        clear hbox k0 k1 k2
        have tk1 : True := trivial
        go_wp2_with (first
          | (clear tk1; at_builtin
             refine appendVt _ rfl (.tmp 39) (.tmp 41) 27 rfl Y.heap.size Try.underlying27 _ [] rfl (s0.out.alloc _) (Y.heap.size + 1) 1 x1 x2 x3 rfl K0.out K1.out K2.out (by simp) (by simp; omega) ?_
             intro g9 c9 w2 o2 g2 a2
             have f2 := Lib.hid ((f1.out.alloc s1 (.cells #[.int .i64 x1, .int .i64 x2, .int .i64 x3] 53)).grown g2 (by simp; omega) (fun q e => ((s0.out.alloc (.cells #[.int .i64 x1, .int .i64 x2, .int .i64 x3] 53)).lt q e).1))
             have o2' := Lib.hid o2
             have s2 := f2.out.size
             clear o2 g2 a2 h0 h1 h2
             have tk2 : True := trivial)
          | (clear tk2; at_builtin
             refine appendSlV _ rfl (.tmp 43) (.tmp 46) 27 rfl Y.heap.size Try.underlying27 _ ([] ++ [(x1, x2, x3)]) rfl o2'.out _ _ _ (l.drop 0) dl.out rfl (fun _ => ⟨rfl, rfl⟩) (fun ad e t ht => by cases e) (by first | (simp; done) | (rw [List.length_append]; simp; omega)) (by omega) ?_
             intro v3 w3 o3 g3 a3
             have f3 := Lib.hid (f2.out.grown g3 (by omega) (fun q e => (o2'.out.lt q e).1))
             have o3' := Lib.hid o3
             clear o3 g3 a3))
        go_ret
        have hput := Lib.hid (show putV l (x1, x2, x3) = [] ++ [(x1, x2, x3)] ++ l.drop 0 by
          unfold putV; rw [← hT'.out, hKK.out, if_neg (hat.out), List.nil_append, List.append_assoc]; rfl)
        have o4 := o3'.out
        rw [← hput.out] at o4
        obtain ⟨A9, c9', e9, o9⟩ := OwnV.of_owns o4
        exact ⟨A9, _, c9', by rw [e9]; rfl, o9.votes, by have := own_cap o4 e9; exact this.1, by have := own_cap o4 e9; exact this.2, bY.out.trans (f3.out.mono bY.out.size)⟩
      | some ad =>
        have hcl := Lib.hid (show ∀ t, t < n * 3 → ∀ W', Below w.heap.size w W' → W'.cell? (ad.add t) = some (cellsV l t) from fun t ht W' hb => by
          obtain ⟨b', off', e, hbl, _⟩ := hvv.out.2 0 (by omega)
          cases e
          rw [Addr.add_lit]
          exact (hb.cell (p := ⟨b', off' + t, none⟩) hbl).trans (votes_cell hvv.out ht))
        by_cases hkc2 : k < c
        all_goals
          go_wp2_with fail
          go_quiet (fail)
          obtain ⟨Y, hY⟩ : ∃ Y, X.drewN nq = Y := ⟨_, rfl⟩
          have uY := Lib.hid (show Below W.heap.size W Y by rw [← hY]; exact below_drewN uX.out nq)
          rw [hY]
          clear hY
          have bY := Lib.hid (hbW.out.trans (uY.out.mono hbW.out.size))
          have y0 := (uY.out.cell (p := ⟨w.heap.size, 0, none⟩) hwl.out).trans b0.out
          have y1 := (uY.out.cell (p := ⟨w.heap.size, 1, none⟩) hwl.out).trans b1.out
          have y2 := (uY.out.cell (p := ⟨w.heap.size, 2, none⟩) hwl.out).trans b2.out
          have Y0 := Lib.hid y0; have Y1 := Lib.hid y1; have Y2 := Lib.hid y2
          have hlY := Lib.hid (Nat.lt_of_lt_of_le hwl.out uY.out.size)
          clear y0 y1 y2
          have s0 := Lib.hid (World.ownsRow_made (base := Y.heap.size) (e := 53) (size := 3) Y #[] 0 (Nat.le_refl _) (by decide) rfl)
          have hvY := Lib.hid (show VotesAt Y Y.heap.size (some ad) n l from hvv.out.up bY.out)
          have tl := Lib.hid (show (l.take k).length = k by rw [List.length_take, hl.out]; omega)
          have dl := Lib.hid (show (l.drop k).length = n - k by rw [List.length_drop, hl.out])
          have hkc : k ≤ c := by omega
          have b0Y : Below Y.heap.size Y (Y.alloc (.cells #[] 53)) := bx_below Y _
          have B0Y := Lib.hid b0Y
          clear b0Y
          have tk0 : True := trivial
          go_wp2_with (first
            | (clear tk0; at_builtin
               refine appendSlV _ rfl (.tmp 34) (.tmp 37) 27 rfl Y.heap.size Try.underlying27 _ [] rfl s0.out _ _ _ (l.take k) tl.out rfl (fun e => by cases e) (fun ad' e t ht => by cases e; rw [cells_take ht (by rw [hl.out]; omega)]; exact hcl.out t (by omega) _ (bY.out.trans (B0Y.out.mono bY.out.size))) (by simp; omega) (by simp) ?_
               intro v1 w1 o1 g1 a1
               obtain ⟨T1, hT⟩ : ∃ T1, ([] : List Vt) ++ l.take k = T1 := ⟨_, rfl⟩
               have hTk : T1.length ≤ 1048576 := (by rw [← hT, List.nil_append, tl.out]; omega)
               rw [hT] at o1
               have hT' := Lib.hid hT
               clear hT
               have f1 := Lib.hid (((Below.refl Y.heap.size Y).alloc (Nat.le_refl _) (.cells #[] 53)).grown g1 (by simp) (fun q e => by cases e; exact Nat.le_refl _))
               have o1' := Lib.hid o1
               have s1 := f1.out.size
               have h0 := (f1.out.cell (p := ⟨w.heap.size, 0, none⟩) hlY.out).trans Y0.out
               have h1 := (f1.out.cell (p := ⟨w.heap.size, 1, none⟩) hlY.out).trans Y1.out
               have h2 := (f1.out.cell (p := ⟨w.heap.size, 2, none⟩) hlY.out).trans Y2.out
               have hbox := three_cells w1 x1 x2 x3 53
               have k0 := hbox.cell (i := 0) (by omega)
               have k1 := hbox.cell (i := 1) (by omega)
               have k2 := hbox.cell (i := 2) (by omega)
               simp only [if_true, if_false, show (1 : Nat) ≠ 0 by decide, show (2 : Nat) ≠ 0 by decide, show (2 : Nat) ≠ 1 by decide] at k0 k1 k2
               have K0 := Lib.hid k0; have K1 := Lib.hid k1; have K2 := Lib.hid k2
               clear hbox k0 k1 k2 o1 g1 a1
               have tk1 : True := trivial)
            | (clear tk1; at_builtin
               refine appendVt _ rfl (.tmp 39) (.tmp 41) 27 rfl Y.heap.size Try.underlying27 _ T1 rfl (o1'.out.alloc _) w1.heap.size 1 x1 x2 x3 rfl K0.out K1.out K2.out hTk (by simp; omega) ?_
               intro g9 c9 w2 o2 g2 a2
               have f2 := Lib.hid ((f1.out.alloc s1 (.cells #[.int .i64 x1, .int .i64 x2, .int .i64 x3] 53)).grown g2 (by simp; omega) (fun q e => ((o1'.out.alloc (.cells #[.int .i64 x1, .int .i64 x2, .int .i64 x3] 53)).lt q e).1))
               have o2' := Lib.hid o2
               have s2 := f2.out.size
               clear o2 g2 a2 h0 h1 h2
               have tk2 : True := trivial)
            | (clear tk2; at_builtin
               refine appendSlV _ rfl (.tmp 43) (.tmp 46) 27 rfl Y.heap.size Try.underlying27 _ (T1 ++ [(x1, x2, x3)]) rfl o2'.out _ _ _ (l.drop k) dl.out rfl (fun e => by cases e) (fun ad' e t ht => absurd ht (by omega)) (by first | (simp; done) | (rw [List.length_append]; simp; omega)) (by omega) ?_
               intro v3 w3 o3 g3 a3
               have f3 := Lib.hid (f2.out.grown g3 (by omega) (fun q e => (o2'.out.lt q e).1))
               have o3' := Lib.hid o3
               clear o3 g3 a3))
          go_ret
          have hput := Lib.hid (show putV l (x1, x2, x3) = T1 ++ [(x1, x2, x3)] ++ l.drop k by
            unfold putV; rw [← hT'.out, hKK.out, if_neg (hat.out), List.nil_append, List.append_assoc]; rfl)
          have o4 := o3'.out
          rw [← hput.out] at o4
          obtain ⟨A9, c9', e9, o9⟩ := OwnV.of_owns o4
          exact ⟨A9, _, c9', by rw [e9]; rfl, o9.votes, by have := own_cap o4 e9; exact this.1, by have := own_cap o4 e9; exact this.2, bY.out.trans (f3.out.mono bY.out.size)⟩
end Go.Proofs.Ytlobjfipefibaaa
