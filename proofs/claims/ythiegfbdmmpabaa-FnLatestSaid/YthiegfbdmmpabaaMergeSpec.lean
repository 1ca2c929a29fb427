/- What is proved here: what the model's l6Put does: a list with a vote put in its place. No conditions but lengths. -/
import Derived.Test.YthiegfbdmmpabaaPutVFacts
import Derived.Test.YthiegfbdmmpabaaVoteApp
import Derived.Test.YthiegfbdmmpabaaVotePoolSpec
import Derived.Laws.OwnMore
import Derived.Test.YthiegfbdmmpabaaPoolBox
namespace Go.Proofs.Ythiegfbdmmpabaa
open Go.RowKit

set_option maxRecDepth 100000 in
/-- An append of a slice of votes that is read whole, nil or empty too, in a plain walk. -/
theorem appendSlV (w : World) {ops : Array Oper} {rest : List Oper} {o : Oper} {a : Act} {Q : Exit → Act → World → Prop} (hg : o.guard = none) (s x : Operand) (t : TypeId)
    (hop : o.op = Op.call { callee := Callee.builtin Builtin.append, args := #[s, x], argTypes := #[t, t] }) (base : Nat)
    (h1 : Try.prog.underlying t = some (.slice 63))
    (v : Value) (ys : List Vt) (hs : a.eval s = v) (hown : w.ownsRow base 63 3 v ys.length (flatV ys)) (A : Option Addr) (m : Nat) (c : Nat) (ls : List Vt) (hl : ls.length = m) (hx : a.eval x = .slice A m c)
    (hnil : A = none → m = 0 ∧ c = 0) (hc : ∀ ad, A = some ad → ∀ j, j < m * 3 → w.cell? (ad.add j) = some (cellsV ls j)) (b1 : ys.length + m ≤ 4194304) (b3 : base ≤ w.heap.size)
    (hK : ∀ v' w', w'.ownsRow base 63 3 v' (ys ++ ls).length (flatV (ys ++ ls)) → w.grownBy w' v.ownBlock → (v'.ownBlock = v.ownBlock ∨ v'.ownBlock = some w.heap.size) → wpList Try.prog ops Q rest (a.put o.dst v') w') :
    wpList Try.prog ops Q (o :: rest) a w := by
  obtain ⟨i0, hi, hzz⟩ := Option.map_eq_some_iff.1 infoVote
  simp only [Prod.mk.injEq] at hzz
  obtain ⟨hz, hsz, hb⟩ := hzz
  cases A with
  | none =>
    obtain ⟨rfl, rfl⟩ := hnil rfl
    have e : ls = [] := List.length_eq_zero_iff.1 hl
    subst e
    refine wpList_plain hg fun K hK' => ?_
    unfold Oper.wp execOp
    simp only [hop, resolve, invoke, builtin, Sem.run_bind, Sem.run_pure, Result.andThen_ok, List.map_toArray, List.map_cons, List.map_nil, hs, hx, run_append_owned_none (P := Try.prog) (w := w) base t o.type 63 i0 3 h1 hi v ys.length _ hown]
    exact hK' _ _ (hK v w (by simpa using hown) ⟨rfl, rfl, rfl, Nat.le_refl _, fun _ _ _ => rfl⟩ (.inl rfl))
  | some ad =>
    refine wpList_append_own_at w hg s x t hop base 63 i0 (.agg #[.int .i64 0, .int .i64 0, .int .i64 0]) 3 24 h1 hi hz hsz hb rfl (by decide) v ys.length _ hs hown ad m c (flatV ls) hx (by rw [flatV_len, hl])
      (fun j u hu => by
        have hj : j < ls.length * 3 := by
          rcases Nat.lt_or_ge j (ls.length * 3) with h | h
          · exact h
          · rw [List.getElem?_eq_none (by rw [flatV_len]; exact h)] at hu; cases hu
        rw [flatV_get ls j hj] at hu
        rw [hc ad rfl j (by omega)]
        exact hu)
      (fun u hu => by
        obtain ⟨j, hj, e⟩ := List.mem_iff_getElem.1 hu
        rw [flatV_len] at hj
        have := flatV_get ls j hj
        rw [List.getElem?_eq_getElem (by rw [flatV_len]; exact hj), e] at this
        injection this with this
        rw [this]; rfl)
      (by simp only [maxLen]; omega) (by omega) b3 ?_
    intro v' w' r1 r2 _ r4
    exact hK v' w' (by rw [flatV_app]; simpa [hl] using r1) r2 r4
end Go.Proofs.Ythiegfbdmmpabaa

/- What is proved here: what the model's l6Put returns. No conditions but lengths. -/
namespace Go.Proofs.Ythiegfbdmmpabaa
open Go.RowKit

/-- A slice of votes that a call hands back: it may be an argument's own. -/
def RetL (w : World) (vs : List Vt) (e : Ending) (w' : World) : Prop :=
  ∃ A n c, e = .returned (.slice A n c) ∧ VotesAt w' w'.heap.size A n vs ∧ n ≤ c ∧ (A = none → n = 0 ∧ c = 0) ∧ Below w.heap.size w w'

theorem votes_cell {w : World} {B b off n : Nat} {vs : List Vt} (h : VotesAt w B (some ⟨b, off, none⟩) n vs) {t : Nat} (ht : t < n * 3) : w.cell? ⟨b, off + t, none⟩ = some (cellsV vs t) := by
  obtain ⟨b', off', e, _, c0, c1, c2⟩ := h.2 (t / 3) (by omega)
  cases e
  have h3 : t % 3 = 0 ∨ t % 3 = 1 ∨ t % 3 = 2 := by omega
  unfold cellsV
  rcases h3 with h | h | h
  · rw [if_pos h, show off + t = off + t / 3 * 3 by omega]; exact c0
  · rw [if_neg (by omega), if_pos h, show off + t = off + t / 3 * 3 + 1 by omega]; exact c1
  · rw [if_neg (by omega), if_neg (by omega), show off + t = off + t / 3 * 3 + 2 by omega]; exact c2
theorem cells_take {l : List Vt} {k t : Nat} (ht : t < k * 3) (_hk : k ≤ l.length) : cellsV (l.take k) t = cellsV l t := by
  unfold cellsV getV
  rw [List.getElem?_take_of_lt (by omega)]
theorem cells_drop {l : List Vt} {k t : Nat} : cellsV (l.drop k) t = cellsV l (k * 3 + t) := by
  unfold cellsV getV
  rw [List.getElem?_drop, show (k * 3 + t) % 3 = t % 3 by omega, show (k * 3 + t) / 3 = k + t / 3 by omega]
theorem own_cap {w : World} {B n c : Nat} {A : Option Addr} {v : Value} {xs : List Value} (h : w.ownsRow B 63 3 v n xs) (e : v = .slice A n c) : n ≤ c ∧ (A = none → n = 0 ∧ c = 0) := by
  subst e
  rcases h.2 with ⟨e, rfl⟩ | ⟨g, cap, cur, e, _, _, hn, _⟩
  · injection e with e1 _ e3; subst e1; subst e3; exact ⟨Nat.le_refl _, fun _ => ⟨rfl, rfl⟩⟩
  · injection e with e1 _ e3; subst e1; subst e3; exact ⟨hn, fun h => by cases h⟩

set_option maxRecDepth 100000 in
set_option maxHeartbeats 6400000 in
theorem l6Put_any (A : Option Addr) (n c : Nat) (l : List Vt) (x1 x2 x3 : Int) (w : World) (hv : VotesAt w w.heap.size A n l) (hn : n ≤ 1048576) (hcap : n ≤ c) (hnil : A = none → n = 0 ∧ c = 0) :
    Calls Try.prog 147 #[.slice A n c, .agg #[.int .i64 x1, .int .i64 x2, .int .i64 x3]] w (RetL w (putV l (x1, x2, x3))) := by
  have hl := Lib.hid hv.1
  have hvv := Lib.hid hv; clear hv
  have hnil' := Lib.hid hnil; clear hnil
  have r3 := three_cells w x1 x2 x3 63
  have hb0 := bx_below w (.cells #[.int .i64 x1, .int .i64 x2, .int .i64 x3] 63)
  obtain ⟨W, hW⟩ : ∃ W, w.alloc (.cells #[.int .i64 x1, .int .i64 x2, .int .i64 x3] 63) = W := ⟨_, rfl⟩
  rw [hW] at r3 hb0
  have e0 := r3.cell (i := 0) (by omega)
  have e1 := r3.cell (i := 1) (by omega)
  have e2 := r3.cell (i := 2) (by omega)
  simp only [if_true, if_false, show (1 : Nat) ≠ 0 by decide, show (2 : Nat) ≠ 0 by decide, show (2 : Nat) ≠ 1 by decide] at e0 e1 e2
  have b0 := Lib.hid e0; have b1 := Lib.hid e1; have b2 := Lib.hid e2
  have hwl := Lib.hid r3.lt
  have hbW := Lib.hid hb0
  have hW' := Lib.hid hW
  have hKle := putKV_le l (x1, x2, x3)
  rw [hl.out] at hKle
  obtain ⟨K, hK⟩ : ∃ K, putKV l (x1, x2, x3) = K := ⟨_, rfl⟩
  have hKK := Lib.hid hK
  rw [hK] at hKle
  clear r3 hb0 hW e0 e1 e2 hK
  go_enter Try.func147, Try.ntmps147
  go_wp2_with fail
  rw [hW'.out]
  go_loopw [5] (fun i wr => ∃ k : Nat, k ≤ K ∧ i = .int .i64 k ∧ Hid (Below W.heap.size W wr)) (fun i _ => K - (intOf i).toNat)
  case atStart => exact ⟨0, Nat.zero_le _, rfl, Lib.hid (Below.refl _ _)⟩
  case round =>
    obtain ⟨k, hk, rfl, hbel⟩ := hrel
    have c0 := (hbel.out.cell (p := ⟨w.heap.size, 0, none⟩) hwl.out).trans b0.out
    have c1 := (hbel.out.cell (p := ⟨w.heap.size, 1, none⟩) hwl.out).trans b1.out
    have c2 := (hbel.out.cell (p := ⟨w.heap.size, 2, none⟩) hwl.out).trans b2.out
    have E0 := cell_regrown c0; have E1 := cell_regrown c1; have E2 := cell_regrown c2
    have bw := Lib.hid (hbW.out.trans (hbel.out.mono hbW.out.size))
    clear c0 c1 c2
    by_cases hkn : k < n
    · have hdn : decide ((k : Int) < (n : Int)) = true := decide_eq_true (by omega)
      have hknI : (k : Int) < (n : Int) := by omega
      obtain ⟨vb, vo, rfl, hvb, q0', q1', q2'⟩ := hvv.out.2 k hkn
      have P0 := cell_regrown ((bw.out.cell (p := ⟨vb, vo + k * 3, none⟩) hvb).trans q0')
      have P1 := cell_regrown ((bw.out.cell (p := ⟨vb, vo + k * 3 + 1, none⟩) hvb).trans q1')
      have P2 := cell_regrown ((bw.out.cell (p := ⟨vb, vo + k * 3 + 2, none⟩) hvb).trans q2')
      obtain ⟨a, ha⟩ : ∃ a, getV l k = a := ⟨_, rfl⟩
      rw [ha] at P0 P1 P2
      have haa := Lib.hid ha
      obtain ⟨a1, a2, a3⟩ := a
      simp only at P0 P1 P2
      have cL := fun (d : Nat) (os : Array Obj) => Calls.regrown_of (w := wr) (l6Less_any a1 a2 a3 x1 x2 x3 (Sort.grow (redrawn wr d) os))
      clear q0' q1' q2' ha
      by_cases hkK : k < K
      · have hls := putKV_lt (l := l) (x := (x1, x2, x3)) (j := k) (by rw [hKK.out]; exact hkK)
        rw [haa.out] at hls
        rw [hls] at cL
        have cL' := Lib.hid cL
        clear cL hls
        go_wp2_with fail
        refine wp_region_quiet_below (by kernel_rfl) (by kernel_rfl) ?_
        repeat (go_big_quiet_step (exact cL'.out _ _))
        refine wpQuiet_nil ?_
        intro _ hw'
        obtain ⟨⟨dq, osq⟩, hw''⟩ := hw'
        subst hw''
        have uX := Lib.hid (hbel.out.trans ((below_regrown wr dq osq).mono hbel.out.size))
        obtain ⟨X, hX⟩ : ∃ X, Sort.grow (redrawn wr dq) osq = X := ⟨_, rfl⟩
        rw [hX] at uX
        rw [hX]
        clear hX
        clear E0 E1 E2 P0 P1 P2
        go_wp2_with fail
        go_roundw
        case rel => exact ⟨k + 1, by omega, by go_num, uX⟩
        case measure => simp [intOf]; omega
      · have hkE : k = K := by omega
        subst hkE
        have hls := putKV_at (l := l) (x := (x1, x2, x3)) (by rw [hKK.out, hl.out]; exact hkn)
        rw [hKK.out, haa.out] at hls
        rw [hls] at cL
        have cL' := Lib.hid cL
        clear cL hls
        go_wp2_with fail
        refine wp_region_quiet_below (by kernel_rfl) (by kernel_rfl) ?_
        repeat (go_big_quiet_step (exact cL'.out _ _))
        refine wpQuiet_nil ?_
        intro _ hw'
        obtain ⟨⟨dq, osq⟩, hw''⟩ := hw'
        subst hw''
        have uX := Lib.hid (hbel.out.trans ((below_regrown wr dq osq).mono hbel.out.size))
        obtain ⟨X, hX⟩ : ∃ X, Sort.grow (redrawn wr dq) osq = X := ⟨_, rfl⟩
        rw [hX] at uX
        rw [hX]
        clear hX
        clear E0 E1 E2 P0 P1 P2
        have z0 := (uX.out.cell (p := ⟨w.heap.size, 0, none⟩) hwl.out).trans b0.out
        have z1 := (uX.out.cell (p := ⟨w.heap.size, 1, none⟩) hwl.out).trans b1.out
        have z2 := (uX.out.cell (p := ⟨w.heap.size, 2, none⟩) hwl.out).trans b2.out
        have bX := Lib.hid (hbW.out.trans (uX.out.mono hbW.out.size))
        obtain ⟨_, _, e', _, q0', q1', q2'⟩ := hvv.out.2 k hkn
        cases e'
        have p0 := (bX.out.cell (p := ⟨vb, vo + k * 3, none⟩) hvb).trans q0'
        have p1 := (bX.out.cell (p := ⟨vb, vo + k * 3 + 1, none⟩) hvb).trans q1'
        have p2 := (bX.out.cell (p := ⟨vb, vo + k * 3 + 2, none⟩) hvb).trans q2'
        rw [haa.out] at p0 p1 p2
        simp only at p0 p1 p2
        clear q0' q1' q2'
        by_cases heq : (a1, a2, a3) = (x1, x2, x3)
        · have hpe := Lib.hid (show putV l (x1, x2, x3) = l by
            unfold putV; rw [hKK.out, if_pos]
            have := haa.out; rw [getV_at (by rw [hl.out]; exact hkn)] at this
            rw [List.getElem?_eq_getElem (by rw [hl.out]; exact hkn), this, heq])
          injection heq with g1 g2
          injection g2 with g2 g3
          subst g1; subst g2; subst g3
          go_wp2_with fail
          go_quiet (fail)
          go_wp2_with fail
          go_ret
          have bZ := below_drewN bX.out nq
          exact ⟨some ⟨vb, vo, none⟩, n, c, rfl, by rw [hpe.out]; exact hvv.out.up bZ, hcap, hnil'.out, bZ⟩
        · have hne3 : (a1 == x1) = false ∨ ((a1 == x1) = true ∧ (a2 == x2) = false) ∨ ((a1 == x1) = true ∧ (a2 == x2) = true ∧ (a3 == x3) = false) := by
            cases h1 : (a1 == x1)
            · exact .inl rfl
            · cases h2 : (a2 == x2)
              · exact .inr (.inl ⟨rfl, rfl⟩)
              · cases h3 : (a3 == x3)
                · exact .inr (.inr ⟨rfl, rfl, rfl⟩)
                · exact absurd (by rw [eq_of_beq h1, eq_of_beq h2, eq_of_beq h3]) heq
          have hat := Lib.hid (show ¬ l[k]? = some (x1, x2, x3) by
            intro h
            have := haa.out; rw [getV_at (by rw [hl.out]; exact hkn)] at this
            rw [List.getElem?_eq_getElem (by rw [hl.out]; exact hkn), this] at h
            injection h with h; exact heq h)
          clear heq
          rcases hne3 with h1 | ⟨h1, h2⟩ | ⟨h1, h2, h3⟩
          all_goals
            go_wp2_with fail
            go_quiet (fail)
            obtain ⟨Y, hY⟩ : ∃ Y, X.drewN nq = Y := ⟨_, rfl⟩
            have uY := Lib.hid (show Below W.heap.size W Y by rw [← hY]; exact below_drewN uX.out nq)
            rw [hY]
            clear hY
            have bY := Lib.hid (hbW.out.trans (uY.out.mono hbW.out.size))
            have y0 := (uY.out.cell (p := ⟨w.heap.size, 0, none⟩) hwl.out).trans b0.out
            have y1 := (uY.out.cell (p := ⟨w.heap.size, 1, none⟩) hwl.out).trans b1.out
            have y2 := (uY.out.cell (p := ⟨w.heap.size, 2, none⟩) hwl.out).trans b2.out
            have Y0 := Lib.hid y0; have Y1 := Lib.hid y1; have Y2 := Lib.hid y2
            have hlY := Lib.hid (Nat.lt_of_lt_of_le hwl.out uY.out.size)
            clear y0 y1 y2
            have s0 := Lib.hid (World.ownsRow_made (base := Y.heap.size) (e := 63) (size := 3) Y #[] 0 (Nat.le_refl _) (by decide) rfl)
            have hvY := Lib.hid (show VotesAt Y Y.heap.size (some ⟨vb, vo, none⟩) n l from hvv.out.up bY.out)
            have tl := Lib.hid (show (l.take k).length = k by rw [List.length_take, hl.out]; omega)
            have dl := Lib.hid (show (l.drop k).length = n - k by rw [List.length_drop, hl.out])
            have hkc : k ≤ c := by omega
            have b0Y : Below Y.heap.size Y (Y.alloc (.cells #[] 63)) := bx_below Y _
            have B0Y := Lib.hid b0Y
            clear b0Y
            have tk0 : True := trivial
            go_wp2_with (first
              | (clear tk0; at_builtin
                 refine appendSlV _ rfl (.tmp 34) (.tmp 37) 53 rfl Y.heap.size Try.underlying53 _ [] rfl s0.out _ _ _ (l.take k) tl.out rfl (fun e => by cases e) (fun ad e t ht => by cases e; rw [Addr.add_lit, cells_take (by omega) (by rw [hl.out]; omega)]; exact (B0Y.out.cell (p := ⟨vb, vo + t, none⟩) (Nat.lt_of_lt_of_le hvb bY.out.size)).trans (votes_cell hvY.out (by omega))) (by simp; omega) (by simp) ?_
                 intro v1 w1 o1 g1 a1
                 obtain ⟨T1, hT⟩ : ∃ T1, ([] : List Vt) ++ l.take k = T1 := ⟨_, rfl⟩
                 have hTk : T1.length ≤ 1048576 := (by rw [← hT, List.nil_append, tl.out]; omega)
                 rw [hT] at o1
                 have hT' := Lib.hid hT
                 clear hT
                 have f1 := Lib.hid (((Below.refl Y.heap.size Y).alloc (Nat.le_refl _) (.cells #[] 63)).grown g1 (by simp) (fun q e => by cases e; exact Nat.le_refl _))
                 have o1' := Lib.hid o1
                 have s1 := f1.out.size
                 have h0 := (f1.out.cell (p := ⟨w.heap.size, 0, none⟩) hlY.out).trans Y0.out
                 have h1 := (f1.out.cell (p := ⟨w.heap.size, 1, none⟩) hlY.out).trans Y1.out
                 have h2 := (f1.out.cell (p := ⟨w.heap.size, 2, none⟩) hlY.out).trans Y2.out
                 have hbox := three_cells w1 x1 x2 x3 63
                 have k0 := hbox.cell (i := 0) (by omega)
                 have k1 := hbox.cell (i := 1) (by omega)
                 have k2 := hbox.cell (i := 2) (by omega)
                 simp only [if_true, if_false, show (1 : Nat) ≠ 0 by decide, show (2 : Nat) ≠ 0 by decide, show (2 : Nat) ≠ 1 by decide] at k0 k1 k2
                 have K0 := Lib.hid k0; have K1 := Lib.hid k1; have K2 := Lib.hid k2
                 clear hbox k0 k1 k2 o1 g1 a1
                 have tk1 : True := trivial)
              | (clear tk1; at_builtin
                 refine appendVt _ rfl (.tmp 39) (.tmp 41) 53 rfl Y.heap.size Try.underlying53 _ T1 rfl (o1'.out.alloc _) w1.heap.size 1 x1 x2 x3 rfl K0.out K1.out K2.out hTk (by simp; omega) ?_
                 intro g9 c9 w2 o2 g2 a2
                 have f2 := Lib.hid ((f1.out.alloc s1 (.cells #[.int .i64 x1, .int .i64 x2, .int .i64 x3] 63)).grown g2 (by simp; omega) (fun q e => ((o1'.out.alloc (.cells #[.int .i64 x1, .int .i64 x2, .int .i64 x3] 63)).lt q e).1))
                 have o2' := Lib.hid o2
                 have s2 := f2.out.size
                 clear o2 g2 a2 h0 h1 h2
                 have tk2 : True := trivial)
              | (clear tk2; at_builtin
                 refine appendSlV _ rfl (.tmp 43) (.tmp 46) 53 rfl Y.heap.size Try.underlying53 _ (T1 ++ [(x1, x2, x3)]) rfl o2'.out _ _ _ (l.drop k) dl.out rfl (fun e => by cases e) (fun ad e t ht => by cases e; rw [Addr.add_lit, cells_drop, Nat.add_assoc]; exact (f2.out.cell (p := ⟨vb, vo + (k * 3 + t), none⟩) (Nat.lt_of_lt_of_le hvb bY.out.size)).trans (votes_cell hvY.out (by omega))) (by first | (simp; done) | (rw [List.length_append]; simp; omega)) (by omega) ?_
                 intro v3 w3 o3 g3 a3
                 have f3 := Lib.hid (f2.out.grown g3 (by omega) (fun q e => (o2'.out.lt q e).1))
                 have o3' := Lib.hid o3
                 clear o3 g3 a3))
            go_ret
            have hput := Lib.hid (show putV l (x1, x2, x3) = T1 ++ [(x1, x2, x3)] ++ l.drop k by
              unfold putV; rw [← hT'.out, hKK.out, if_neg (hat.out), List.nil_append, List.append_assoc]; rfl)
            have o4 := o3'.out
            rw [← hput.out] at o4
            obtain ⟨A9, c9', e9, o9⟩ := OwnV.of_owns o4
            exact ⟨A9, _, c9', by rw [e9]; rfl, o9.votes, by have := own_cap o4 e9; exact this.1, by have := own_cap o4 e9; exact this.2, bY.out.trans (f3.out.mono bY.out.size)⟩
    · have hkE : k = K := by omega
      have hkn1 : k ≤ n := by omega
      have hdn : decide ((k : Int) < (n : Int)) = false := decide_eq_false (by omega)
      subst hkE
      go_wp2_with fail
      refine wp_region_quiet_below (by kernel_rfl) (by kernel_rfl) ?_
      repeat (go_big_quiet_step (fail))
      refine wpQuiet_nil ?_
      intro _ hw'
      obtain ⟨⟨dq, osq⟩, hw''⟩ := hw'
      subst hw''
      have uX := Lib.hid (hbel.out.trans ((below_regrown wr dq osq).mono hbel.out.size))
      obtain ⟨X, hX⟩ : ∃ X, Sort.grow (redrawn wr dq) osq = X := ⟨_, rfl⟩
      rw [hX] at uX
      rw [hX]
      clear hX
      clear E0 E1 E2
      have hat := Lib.hid (show ¬ l[k]? = some (x1, x2, x3) by
        rw [List.getElem?_eq_none (by rw [hl.out]; omega)]; intro e; cases e)
      cases A with
      | none =>
        obtain ⟨hn0, hc0⟩ := hnil'.out rfl
        subst hn0; subst hc0
        obtain rfl : k = 0 := by omega
        go_wp2_with fail
        go_quiet (fail)
        obtain ⟨Y, hY⟩ : ∃ Y, X.drewN nq = Y := ⟨_, rfl⟩
        have uY := Lib.hid (show Below W.heap.size W Y by rw [← hY]; exact below_drewN uX.out nq)
        rw [hY]
        clear hY
        have bY := Lib.hid (hbW.out.trans (uY.out.mono hbW.out.size))
        have y0 := (uY.out.cell (p := ⟨w.heap.size, 0, none⟩) hwl.out).trans b0.out
        have y1 := (uY.out.cell (p := ⟨w.heap.size, 1, none⟩) hwl.out).trans b1.out
        have y2 := (uY.out.cell (p := ⟨w.heap.size, 2, none⟩) hwl.out).trans b2.out
        have Y0 := Lib.hid y0; have Y1 := Lib.hid y1; have Y2 := Lib.hid y2
        have hlY := Lib.hid (Nat.lt_of_lt_of_le hwl.out uY.out.size)
        clear y0 y1 y2
        have s0 := Lib.hid (World.ownsRow_made (base := Y.heap.size) (e := 63) (size := 3) Y #[] 0 (Nat.le_refl _) (by decide) rfl)
        have hvY := Lib.hid (show VotesAt Y Y.heap.size none 0 l from hvv.out.up bY.out)
        have tl := Lib.hid (show (l.take 0).length = 0 by rw [List.length_take, hl.out]; omega)
        have dl := Lib.hid (show (l.drop 0).length = 0 - 0 by rw [List.length_drop, hl.out])
        have hkc : 0 ≤ 0 := by omega
        have b0Y : Below Y.heap.size Y (Y.alloc (.cells #[] 63)) := bx_below Y _
        have B0Y := Lib.hid b0Y
        clear b0Y
        have w1s : Y.heap.size < (Y.alloc (.cells #[] 63)).heap.size := by simp
        have f1 := B0Y
        have s1 := f1.out.size
        have h0 := (f1.out.cell (p := ⟨w.heap.size, 0, none⟩) hlY.out).trans Y0.out
        have h1 := (f1.out.cell (p := ⟨w.heap.size, 1, none⟩) hlY.out).trans Y1.out
        have h2 := (f1.out.cell (p := ⟨w.heap.size, 2, none⟩) hlY.out).trans Y2.out
        have hbox := three_cells (Y.alloc (.cells #[] 63)) x1 x2 x3 63
        rw [show (Y.alloc (.cells #[] 63)).heap.size = Y.heap.size + 1 by simp] at hbox
        have k0 := hbox.cell (i := 0) (by omega)
        have k1 := hbox.cell (i := 1) (by omega)
        have k2 := hbox.cell (i := 2) (by omega)
        simp only [if_true, if_false, show (1 : Nat) ≠ 0 by decide, show (2 : Nat) ≠ 0 by decide, show (2 : Nat) ≠ 1 by decide] at k0 k1 k2
        have K0 := Lib.hid k0; have K1 := Lib.hid k1; have K2 := Lib.hid k2
        have hT' := Lib.hid (show ([] : List Vt) ++ l.take 0 = [] by simp)
        clear hbox k0 k1 k2
        have tk1 : True := trivial
        go_wp2_with (first
          | (clear tk1; at_builtin
             refine appendVt _ rfl (.tmp 39) (.tmp 41) 53 rfl Y.heap.size Try.underlying53 _ [] rfl (s0.out.alloc _) (Y.heap.size + 1) 1 x1 x2 x3 rfl K0.out K1.out K2.out (by simp) (by simp; omega) ?_
             intro g9 c9 w2 o2 g2 a2
             have f2 := Lib.hid ((f1.out.alloc s1 (.cells #[.int .i64 x1, .int .i64 x2, .int .i64 x3] 63)).grown g2 (by simp; omega) (fun q e => ((s0.out.alloc (.cells #[.int .i64 x1, .int .i64 x2, .int .i64 x3] 63)).lt q e).1))
             have o2' := Lib.hid o2
             have s2 := f2.out.size
             clear o2 g2 a2 h0 h1 h2
             have tk2 : True := trivial)
          | (clear tk2; at_builtin
             refine appendSlV _ rfl (.tmp 43) (.tmp 46) 53 rfl Y.heap.size Try.underlying53 _ ([] ++ [(x1, x2, x3)]) rfl o2'.out _ _ _ (l.drop 0) dl.out rfl (fun _ => ⟨rfl, rfl⟩) (fun ad e t ht => by cases e) (by first | (simp; done) | (rw [List.length_append]; simp; omega)) (by omega) ?_
             intro v3 w3 o3 g3 a3
             have f3 := Lib.hid (f2.out.grown g3 (by omega) (fun q e => (o2'.out.lt q e).1))
             have o3' := Lib.hid o3
             clear o3 g3 a3))
        go_ret
        have hput := Lib.hid (show putV l (x1, x2, x3) = [] ++ [(x1, x2, x3)] ++ l.drop 0 by
          unfold putV; rw [← hT'.out, hKK.out, if_neg (hat.out), List.nil_append, List.append_assoc]; rfl)
        have o4 := o3'.out
        rw [← hput.out] at o4
        obtain ⟨A9, c9', e9, o9⟩ := OwnV.of_owns o4
        exact ⟨A9, _, c9', by rw [e9]; rfl, o9.votes, by have := own_cap o4 e9; exact this.1, by have := own_cap o4 e9; exact this.2, bY.out.trans (f3.out.mono bY.out.size)⟩
      | some ad =>
        have hcl := Lib.hid (show ∀ t, t < n * 3 → ∀ W', Below w.heap.size w W' → W'.cell? (ad.add t) = some (cellsV l t) from fun t ht W' hb => by
          obtain ⟨b', off', e, hbl, _⟩ := hvv.out.2 0 (by omega)
          cases e
          rw [Addr.add_lit]
          exact (hb.cell (p := ⟨b', off' + t, none⟩) hbl).trans (votes_cell hvv.out ht))
        by_cases hkc2 : k < c
        all_goals
          go_wp2_with fail
          go_quiet (fail)
          obtain ⟨Y, hY⟩ : ∃ Y, X.drewN nq = Y := ⟨_, rfl⟩
          have uY := Lib.hid (show Below W.heap.size W Y by rw [← hY]; exact below_drewN uX.out nq)
          rw [hY]
          clear hY
          have bY := Lib.hid (hbW.out.trans (uY.out.mono hbW.out.size))
          have y0 := (uY.out.cell (p := ⟨w.heap.size, 0, none⟩) hwl.out).trans b0.out
          have y1 := (uY.out.cell (p := ⟨w.heap.size, 1, none⟩) hwl.out).trans b1.out
          have y2 := (uY.out.cell (p := ⟨w.heap.size, 2, none⟩) hwl.out).trans b2.out
          have Y0 := Lib.hid y0; have Y1 := Lib.hid y1; have Y2 := Lib.hid y2
          have hlY := Lib.hid (Nat.lt_of_lt_of_le hwl.out uY.out.size)
          clear y0 y1 y2
          have s0 := Lib.hid (World.ownsRow_made (base := Y.heap.size) (e := 63) (size := 3) Y #[] 0 (Nat.le_refl _) (by decide) rfl)
          have hvY := Lib.hid (show VotesAt Y Y.heap.size (some ad) n l from hvv.out.up bY.out)
          have tl := Lib.hid (show (l.take k).length = k by rw [List.length_take, hl.out]; omega)
          have dl := Lib.hid (show (l.drop k).length = n - k by rw [List.length_drop, hl.out])
          have hkc : k ≤ c := by omega
          have b0Y : Below Y.heap.size Y (Y.alloc (.cells #[] 63)) := bx_below Y _
          have B0Y := Lib.hid b0Y
          clear b0Y
          have tk0 : True := trivial
          go_wp2_with (first
            | (clear tk0; at_builtin
               refine appendSlV _ rfl (.tmp 34) (.tmp 37) 53 rfl Y.heap.size Try.underlying53 _ [] rfl s0.out _ _ _ (l.take k) tl.out rfl (fun e => by cases e) (fun ad' e t ht => by cases e; rw [cells_take ht (by rw [hl.out]; omega)]; exact hcl.out t (by omega) _ (bY.out.trans (B0Y.out.mono bY.out.size))) (by simp; omega) (by simp) ?_
               intro v1 w1 o1 g1 a1
               obtain ⟨T1, hT⟩ : ∃ T1, ([] : List Vt) ++ l.take k = T1 := ⟨_, rfl⟩
               have hTk : T1.length ≤ 1048576 := (by rw [← hT, List.nil_append, tl.out]; omega)
               rw [hT] at o1
               have hT' := Lib.hid hT
               clear hT
               have f1 := Lib.hid (((Below.refl Y.heap.size Y).alloc (Nat.le_refl _) (.cells #[] 63)).grown g1 (by simp) (fun q e => by cases e; exact Nat.le_refl _))
               have o1' := Lib.hid o1
               have s1 := f1.out.size
               have h0 := (f1.out.cell (p := ⟨w.heap.size, 0, none⟩) hlY.out).trans Y0.out
               have h1 := (f1.out.cell (p := ⟨w.heap.size, 1, none⟩) hlY.out).trans Y1.out
               have h2 := (f1.out.cell (p := ⟨w.heap.size, 2, none⟩) hlY.out).trans Y2.out
               have hbox := three_cells w1 x1 x2 x3 63
               have k0 := hbox.cell (i := 0) (by omega)
               have k1 := hbox.cell (i := 1) (by omega)
               have k2 := hbox.cell (i := 2) (by omega)
               simp only [if_true, if_false, show (1 : Nat) ≠ 0 by decide, show (2 : Nat) ≠ 0 by decide, show (2 : Nat) ≠ 1 by decide] at k0 k1 k2
               have K0 := Lib.hid k0; have K1 := Lib.hid k1; have K2 := Lib.hid k2
               clear hbox k0 k1 k2 o1 g1 a1
               have tk1 : True := trivial)
            | (clear tk1; at_builtin
               refine appendVt _ rfl (.tmp 39) (.tmp 41) 53 rfl Y.heap.size Try.underlying53 _ T1 rfl (o1'.out.alloc _) w1.heap.size 1 x1 x2 x3 rfl K0.out K1.out K2.out hTk (by simp; omega) ?_
               intro g9 c9 w2 o2 g2 a2
               have f2 := Lib.hid ((f1.out.alloc s1 (.cells #[.int .i64 x1, .int .i64 x2, .int .i64 x3] 63)).grown g2 (by simp; omega) (fun q e => ((o1'.out.alloc (.cells #[.int .i64 x1, .int .i64 x2, .int .i64 x3] 63)).lt q e).1))
               have o2' := Lib.hid o2
               have s2 := f2.out.size
               clear o2 g2 a2 h0 h1 h2
               have tk2 : True := trivial)
            | (clear tk2; at_builtin
               refine appendSlV _ rfl (.tmp 43) (.tmp 46) 53 rfl Y.heap.size Try.underlying53 _ (T1 ++ [(x1, x2, x3)]) rfl o2'.out _ _ _ (l.drop k) dl.out rfl (fun e => by cases e) (fun ad' e t ht => absurd ht (by omega)) (by first | (simp; done) | (rw [List.length_append]; simp; omega)) (by omega) ?_
               intro v3 w3 o3 g3 a3
               have f3 := Lib.hid (f2.out.grown g3 (by omega) (fun q e => (o2'.out.lt q e).1))
               have o3' := Lib.hid o3
               clear o3 g3 a3))
          go_ret
          have hput := Lib.hid (show putV l (x1, x2, x3) = T1 ++ [(x1, x2, x3)] ++ l.drop k by
            unfold putV; rw [← hT'.out, hKK.out, if_neg (hat.out), List.nil_append, List.append_assoc]; rfl)
          have o4 := o3'.out
          rw [← hput.out] at o4
          obtain ⟨A9, c9', e9, o9⟩ := OwnV.of_owns o4
          exact ⟨A9, _, c9', by rw [e9]; rfl, o9.votes, by have := own_cap o4 e9; exact this.1, by have := own_cap o4 e9; exact this.2, bY.out.trans (f3.out.mono bY.out.size)⟩
end Go.Proofs.Ythiegfbdmmpabaa

/- What is proved here: what the model's l6All, l6Tell and PoolOf return. No conditions but lengths. -/
namespace Go.Proofs.Ythiegfbdmmpabaa
open Go.RowKit

set_option maxRecDepth 100000 in
set_option maxHeartbeats 1600000 in
theorem l6All_any (A : Option Addr) (n c : Nat) (l : List Vt) (V : Option Addr) (m d : Nat) (vs : List Vt) (w : World) (hl : VotesAt w w.heap.size A n l) (hv : VotesAt w w.heap.size V m vs) (hn : n + m ≤ 1048576) (hcap : n ≤ c) (hnil : A = none → n = 0 ∧ c = 0) :
    Calls Try.prog 140 #[.slice A n c, .slice V m d] w (RetL w (allV l vs m)) := by
  have hlv := Lib.hid hv.1; have hll := Lib.hid hl.1
  have hvv := Lib.hid hv; have hl0 := Lib.hid hl; have hnil' := Lib.hid hnil
  clear hl hv hnil
  go_enter Try.func140, Try.ntmps140
  go_wp2_with fail
  go_loopw [0, 6, 9] (fun o _ i wr => ∃ k : Nat, k ≤ m ∧ i = .int .i64 k ∧ (∃ A1 n1 c1, o = .slice A1 n1 c1 ∧ Hid (VotesAt wr wr.heap.size A1 n1 (allV l vs k)) ∧ n1 ≤ c1 ∧ Hid (A1 = none → n1 = 0 ∧ c1 = 0)) ∧ Hid (Below w.heap.size w wr)) (fun _ _ i _ => m - (intOf i).toNat)
  case atStart => exact ⟨0, Nat.zero_le _, rfl, ⟨A, n, c, rfl, hl0, hcap, hnil'⟩, Lib.hid (Below.refl _ _)⟩
  case round =>
    obtain ⟨k, hk, rfl, ⟨A1, n1, c1, rfl, hl1, hcap1, hnil1⟩, hbel⟩ := hrel
    have hn1 : n1 ≤ n + k := by have := allV_len l vs k; rw [hl1.out.1, hll.out] at this; exact this
    by_cases hlt : k < m
    · obtain ⟨vb, vo, rfl, hvb, e0', e1', e2'⟩ := hvv.out.2 k hlt
      have e0 := (hbel.out.cell (p := ⟨vb, vo + k * 3, none⟩) hvb).trans e0'
      have e1 := (hbel.out.cell (p := ⟨vb, vo + k * 3 + 1, none⟩) hvb).trans e1'
      have e2 := (hbel.out.cell (p := ⟨vb, vo + k * 3 + 2, none⟩) hvb).trans e2'
      obtain ⟨v, hvk⟩ : ∃ v, getV vs k = v := ⟨_, rfl⟩
      rw [hvk] at e0 e1 e2
      obtain ⟨x, y, z⟩ := v
      simp only at e0 e1 e2
      have hst := Lib.hid (show allV l vs (k + 1) = putV (allV l vs k) (x, y, z) by simp only [allV]; rw [hvk])
      have hb1 := bx_below wr (.cells #[.int .i64 x, .int .i64 y, .int .i64 z] 63)
      have u1 := Lib.hid (hbel.out.trans (hb1.mono hbel.out.size))
      have l1 := Lib.hid (hl1.out.up hb1)
      clear hvk e0' e1' e2' hb1
      go_wp2_with (go_at_call 147; refine (l6Put_any A1 n1 c1 (allV l vs k) x y z _ l1.out (by omega) hcap1 hnil1.out).mono ?_; rintro e w4 ⟨A4, n4, c4, rfl, v4, cap4, nil4, b4⟩; have z4 := Lib.hid v4; have y4 := Lib.hid nil4; have u4 := Lib.hid (u1.out.trans (b4.mono u1.out.size)); clear v4 nil4 b4)
      go_roundw
      case rel => exact ⟨k + 1, by omega, by go_num, ⟨A4, n4, c4, rfl, Lib.hid (by rw [hst.out]; exact z4.out), cap4, y4⟩, u4⟩
      case measure => simp [intOf]; omega
    · have hkm : k = m := by omega
      subst hkm
      go_wp2_with fail
      go_ret
      exact ⟨A1, n1, c1, rfl, hl1.out, hcap1, hnil1.out, hbel.out⟩

def tellR (ts : List Blk) (ss : List Int) (vs : List Vt) : List Vt := if poolOk ts ss vs = true then vs else []
set_option maxRecDepth 100000 in
set_option maxHeartbeats 1600000 in
theorem l6Tell_any (A : Option Addr) (n c : Nat) (ts : List Blk) (A' : Option Addr) (n' c' : Nat) (ss : List Int) (V : Option Addr) (m d : Nat) (vs : List Vt) (w : World) (h : BlksAt w w.heap.size A n ts) (h' : IntsAt w w.heap.size A' n' ss) (hv : VotesAt w w.heap.size V m vs) (hn : n ≤ 1048576) (hn' : n' ≤ 1048576) (hm : m ≤ 1048576) (hnil : V = none → m = 0 ∧ d = 0) :
    Calls Try.prog 139 #[.slice A n c, .slice A' n' c', .slice V m d] w (RetPool w (poolOk ts ss vs) (tellR ts ss vs)) := by
  have hlv := Lib.hid hv.1
  have hh := Lib.hid h; have hh' := Lib.hid h'; have hvv := Lib.hid hv; have hnil' := Lib.hid hnil; clear h h' hv hnil
  obtain ⟨rR, bW, sW⟩ := bx1_rows w (.slice none 0 0) 55
  have qR := Lib.hid rR; have u := Lib.hid bW
  have s0 := Lib.hid (World.ownsRow_made (base := w.heap.size + 1) (e := 63) (size := 3) (w.alloc (.cells #[.slice none 0 0] 55)) #[] 0 (Nat.le_of_eq sW.symm) (by decide) rfl)
  have u0 := Lib.hid (bW.trans ((bx_below (w.alloc (.cells #[.slice none 0 0] 55)) (.cells #[] 63)).mono bW.size))
  have hcl := Lib.hid (show ∀ ad, V = some ad → ∀ t, t < m * 3 → ∀ W', Below w.heap.size w W' → W'.cell? (ad.add t) = some (cellsV vs t) from fun ad e0 t ht W' hb => by
    obtain ⟨b', off', e, hbl, _⟩ := hvv.out.2 0 (by omega)
    rw [e0] at e
    cases e
    have h1 := hvv.out
    rw [e0] at h1
    rw [Addr.add_lit]
    exact (hb.cell (p := ⟨b', off' + t, none⟩) hbl).trans (votes_cell h1 ht))
  rw [sW] at s0
  clear rR bW sW
  cases hg : poolOk ts ss vs
  · have hr := Lib.hid (show tellR ts ss vs = [] by unfold tellR; rw [if_neg (by rw [hg]; decide)])
    go_enter Try.func139, Try.ntmps139
    go_wp2_with (first
      | (at_builtin
         refine appendSlV _ rfl (.tmp 9) (.tmp 10) 53 rfl (w.heap.size + 1) Try.underlying53 _ [] rfl s0.out V m d vs hlv.out rfl hnil'.out (fun ad e t ht => hcl.out ad e t ht _ u0.out) (by simp; omega) (by simp) ?_
         intro v1 w1 o1 g1 a1
         have f1 : Below (w.heap.size + 1) (w.alloc (.cells #[.slice none 0 0] 55)) w1 := (((Below.refl (w.heap.size + 1) (w.alloc (.cells #[.slice none 0 0] 55))).alloc (by simp) (.cells #[] 63)).grown g1 (by simp) (fun q e => by cases e; exact Nat.le_refl _))
         rw [List.nil_append] at o1
         obtain ⟨A1, c1, e1, p1⟩ := OwnV.of_owns o1
         obtain ⟨L, hL⟩ : ∃ L, vs.length = L := ⟨_, rfl⟩
         rw [hL] at e1 p1
         have hLm : L ≤ 1048576 := (by rw [← hL, hlv.out]; exact hm)
         subst e1
         have kk := bx_below w1 (.cells #[.slice A1 L c1] 55)
         have fs : (w.alloc (.cells #[.slice none 0 0] 55)).heap.size ≤ w1.heap.size := f1.size
         have hlt1 : w.heap.size + 1 ≤ w1.heap.size := (by simpa using fs)
         have x1 := Lib.hid (bx_row w1 (.slice A1 L c1) 55)
         have hx1 := x1.out.cell (i := 0) (by omega)
         have p1' := Lib.hid (p1.below kk)
         replace qR := Lib.hid (rowIs_below (rowIs_below qR.out f1 (Nat.lt_succ_self _)) kk (by omega))
         replace u := Lib.hid (u.out.trans ((f1.trans (kk.mono hlt1)).mono (Nat.le_succ _)))
         clear o1 g1 a1 p1 kk fs f1 hL)
      | (go_at_call 112; refine (specGoodPool_any A n c ts A' n' c' ss A1 L c1 vs _ (hh.out.up u.out) (hh'.out.up' u.out) p1'.out.votes hn hn' hLm).mono ?_; rintro e w2 ⟨rfl, b2⟩; rw [hg]; have p2 := Lib.hid (p1'.out.below b2); replace u := Lib.hid (u.out.trans (b2.mono u.out.size)); replace qR := Lib.hid (rowIs_below qR.out b2 qR.out.lt); replace x1 := Lib.hid (rowIs_below x1.out b2 x1.out.lt); clear b2 hx1; have hcR := qR.out.cell (i := 0) (by omega); have hfR := qR.out.frozen 0))
    refine bodyPost_ret (results_row2 rfl _ _ (w.heap.size) 55 #[.slice none 0 0] (0, 0) _ rfl (pl_one_set qR.out _) Try.underlying55 rfl (by kernel_rfl)) rfl ?_
    exact ⟨none, 0, 0, rfl, by rw [hr.out]; exact OwnV.nil _ _, u.out.setCell (by show w.heap.size ≤ w.heap.size; omega) _⟩
  · have hr := Lib.hid (show tellR ts ss vs = vs by unfold tellR; rw [if_pos hg])
    go_enter Try.func139, Try.ntmps139
    go_wp2_with (first
      | (at_builtin
         refine appendSlV _ rfl (.tmp 9) (.tmp 10) 53 rfl (w.heap.size + 1) Try.underlying53 _ [] rfl s0.out V m d vs hlv.out rfl hnil'.out (fun ad e t ht => hcl.out ad e t ht _ u0.out) (by simp; omega) (by simp) ?_
         intro v1 w1 o1 g1 a1
         have f1 : Below (w.heap.size + 1) (w.alloc (.cells #[.slice none 0 0] 55)) w1 := (((Below.refl (w.heap.size + 1) (w.alloc (.cells #[.slice none 0 0] 55))).alloc (by simp) (.cells #[] 63)).grown g1 (by simp) (fun q e => by cases e; exact Nat.le_refl _))
         rw [List.nil_append] at o1
         obtain ⟨A1, c1, e1, p1⟩ := OwnV.of_owns o1
         obtain ⟨L, hL⟩ : ∃ L, vs.length = L := ⟨_, rfl⟩
         rw [hL] at e1 p1
         have hLm : L ≤ 1048576 := (by rw [← hL, hlv.out]; exact hm)
         subst e1
         have kk := bx_below w1 (.cells #[.slice A1 L c1] 55)
         have fs : (w.alloc (.cells #[.slice none 0 0] 55)).heap.size ≤ w1.heap.size := f1.size
         have hlt1 : w.heap.size + 1 ≤ w1.heap.size := (by simpa using fs)
         have x1 := Lib.hid (bx_row w1 (.slice A1 L c1) 55)
         have hx1 := x1.out.cell (i := 0) (by omega)
         have p1' := Lib.hid (p1.below kk)
         replace qR := Lib.hid (rowIs_below (rowIs_below qR.out f1 (Nat.lt_succ_self _)) kk (by omega))
         replace u := Lib.hid (u.out.trans ((f1.trans (kk.mono hlt1)).mono (Nat.le_succ _)))
         clear o1 g1 a1 p1 kk fs f1 hL)
      | (go_at_call 112; refine (specGoodPool_any A n c ts A' n' c' ss A1 L c1 vs _ (hh.out.up u.out) (hh'.out.up' u.out) p1'.out.votes hn hn' hLm).mono ?_; rintro e w2 ⟨rfl, b2⟩; rw [hg]; have p2 := Lib.hid (p1'.out.below b2); replace u := Lib.hid (u.out.trans (b2.mono u.out.size)); replace qR := Lib.hid (rowIs_below qR.out b2 qR.out.lt); replace x1 := Lib.hid (rowIs_below x1.out b2 x1.out.lt); clear b2 hx1; have hx1 := x1.out.cell (i := 0) (by omega); have hcR := qR.out.cell (i := 0) (by omega); have hfR := qR.out.frozen 0))
    refine bodyPost_ret (results_row2 rfl _ _ (w.heap.size) 55 #[.slice A1 L c1] (0, 0) _ rfl (pl_one_set qR.out _) Try.underlying55 rfl (by kernel_rfl)) rfl ?_
    exact ⟨A1, L, c1, rfl, by rw [hr.out]; exact (p2.out.setBox (Nat.lt_succ_self _) _).fewer (Nat.le_succ _), u.out.setCell (by show w.heap.size ≤ w.heap.size; omega) _⟩

theorem tell_set (ts : List Blk) (ss : List Int) (l : List Vt) : tellR ts ss (setV l) = pofR ts ss l := by
  unfold tellR pofR; rw [pool_set]
set_option maxRecDepth 100000 in
set_option maxHeartbeats 1600000 in
theorem specPoolOf_any (A : Option Addr) (n c : Nat) (ts : List Blk) (A' : Option Addr) (n' c' : Nat) (ss : List Int) (V : Option Addr) (m d : Nat) (vs : List Vt) (w : World) (h : BlksAt w w.heap.size A n ts) (h' : IntsAt w w.heap.size A' n' ss) (hv : VotesAt w w.heap.size V m vs) (hn : n ≤ 1048576) (hn' : n' ≤ 1048576) (hm : m ≤ 1048576) :
    Calls Try.prog 71 #[.slice A n c, .slice A' n' c', .slice V m d] w (RetPool w (pofOK ts ss vs) (pofR ts ss vs)) := by
  have hlv := Lib.hid hv.1
  have hh := Lib.hid h; have hh' := Lib.hid h'; have hvv := Lib.hid hv; clear h h' hv
  obtain ⟨rR, bW, sW⟩ := bx1_rows w (.slice none 0 0) 55
  have qR := Lib.hid rR; have u := Lib.hid bW
  have hset := Lib.hid (show allV [] vs m = setV vs by unfold setV; rw [hlv.out])
  have hsl := Lib.hid (setV_len vs)
  have hok := Lib.hid (pool_set ts ss vs)
  have htl := Lib.hid (tell_set ts ss vs)
  clear rR bW sW
  go_enter Try.func71, Try.ntmps71
  go_wp2_with (first
    | (go_at_call 140; refine (l6All_any none 0 0 [] V m d vs _ VotesAt.nil (hvv.out.up u.out) (by omega) (Nat.le_refl _) (fun _ => ⟨rfl, rfl⟩)).mono ?_; rw [hset.out]; rintro e w1 ⟨A1, n1, c1, rfl, v1, cap1, nil1, b1⟩; have z1 := Lib.hid v1; have y1 := Lib.hid nil1; replace u := Lib.hid (u.out.trans (b1.mono u.out.size)); replace qR := Lib.hid (rowIs_below qR.out b1 qR.out.lt); clear v1 nil1 b1)
    | (go_at_call 139; refine (l6Tell_any A n c ts A' n' c' ss A1 n1 c1 (setV vs) _ (hh.out.up u.out) (hh'.out.up' u.out) z1.out hn hn' (by have := z1.out.1; have := hsl.out; have := hlv.out; omega) y1.out).mono ?_; rw [hok.out, htl.out]; rintro e w2 ⟨A2, n2, c2, rfl, o2, b2⟩; have o2' := Lib.hid o2; have lR := Lib.hid qR.out.lt; replace u := Lib.hid (u.out.trans (b2.mono u.out.size)); replace qR := Lib.hid (rowIs_below qR.out b2 qR.out.lt); clear o2 b2; have hcR := qR.out.cell (i := 0) (by omega); have hfR := qR.out.frozen 0))
  refine bodyPost_ret (results_row2 rfl _ _ (w.heap.size) 55 #[.slice A2 n2 c2] (0, 0) _ rfl (pl_one_set qR.out _) Try.underlying55 rfl (by kernel_rfl)) rfl ?_
  exact ⟨A2, n2, c2, rfl, (o2'.out.setBox lR.out _).fewer (by have := lR.out; omega), u.out.setCell (by show w.heap.size ≤ w.heap.size; omega) _⟩
end Go.Proofs.Ythiegfbdmmpabaa

/- What is proved here: what the model's MergePools returns. No conditions but lengths, and a slice's room. -/
namespace Go.Proofs.Ythiegfbdmmpabaa
open Go.RowKit

def mrgOK (ts : List Blk) (ss : List Int) (a b : List Vt) : Bool := (poolOk ts ss a && poolOk ts ss b) && decide ((setV (a ++ b)).length ≤ 60)
def mrgR (ts : List Blk) (ss : List Int) (a b : List Vt) : List Vt := if mrgOK ts ss a b = true then setV (a ++ b) else []
theorem mrg_tell {ts : List Blk} {ss : List Int} {a b : List Vt} (ha : poolOk ts ss a = true) (hb : poolOk ts ss b = true) : allV a b b.length = setV (a ++ b) ∧ poolOk ts ss (setV (a ++ b)) = mrgOK ts ss a b ∧ tellR ts ss (setV (a ++ b)) = mrgR ts ss a b := by
  have h1 := (poolOk_iff'.1 ha); have h2 := (poolOk_iff'.1 hb)
  have hp : poolOk ts ss (setV (a ++ b)) = mrgOK ts ss a b := by
    rw [pool_set]; unfold mrgOK pofOK
    rw [ha, hb, Bool.true_and, Bool.true_and]
    have : votesOk ts ss (a ++ b) = true := votesOk_iff'.2 ⟨h1.1.1, fun v hv => (List.mem_append.1 hv).elim (h1.2.1 v) (h2.2.1 v)⟩
    rw [this, Bool.true_and]
  refine ⟨setV_all h1.2.2, hp, ?_⟩
  unfold tellR mrgR; rw [hp]
set_option maxRecDepth 100000 in
set_option maxHeartbeats 1600000 in
theorem specMergePools_any (A : Option Addr) (n c : Nat) (ts : List Blk) (A' : Option Addr) (n' c' : Nat) (ss : List Int) (V : Option Addr) (m d : Nat) (vs : List Vt) (V' : Option Addr) (m' d' : Nat) (vs' : List Vt) (w : World) (h : BlksAt w w.heap.size A n ts) (h' : IntsAt w w.heap.size A' n' ss) (hv : VotesAt w w.heap.size V m vs) (hv' : VotesAt w w.heap.size V' m' vs') (hn : n ≤ 1048576) (hn' : n' ≤ 1048576) (hm : m ≤ 1048576) (hm' : m' ≤ 1048576) (hcap : m ≤ d) (hnil : V = none → m = 0 ∧ d = 0) :
    Calls Try.prog 75 #[.slice A n c, .slice A' n' c', .agg #[.slice V m d], .agg #[.slice V' m' d']] w (RetPool w (mrgOK ts ss vs vs') (mrgR ts ss vs vs')) := by
  have hlv := Lib.hid hv.1; have hlv' := Lib.hid hv'.1
  have hh := Lib.hid h; have hh' := Lib.hid h'; have hvv := Lib.hid hv; have hvv' := Lib.hid hv'; have hnil' := Lib.hid hnil; clear h h' hv hv' hnil
  obtain ⟨r1, r2, rR, bW, sW⟩ := bx3_rows w (.slice V m d) (.slice V' m' d') (.slice none 0 0) 55 55 55
  have hc1 := r1.cell (i := 0) (by omega)
  have hc2 := r2.cell (i := 0) (by omega)
  have q1 := Lib.hid r1; have q2 := Lib.hid r2
  have qR := Lib.hid rR; have u := Lib.hid bW
  clear bW sW rR r1 r2
  cases hg : poolOk ts ss vs
  · skip
    have hok := Lib.hid (show mrgOK ts ss vs vs' = false by unfold mrgOK; rw [hg]; simp)
    have hr := Lib.hid (show mrgR ts ss vs vs' = [] by unfold mrgR; rw [if_neg (by rw [hok.out]; decide)])
    go_enter Try.func75, Try.ntmps75
    have tk0 : True := trivial
    have tk1 : True := trivial
    go_wp2_with (first
      | (clear tk0; go_at_call 112; refine (specGoodPool_any A n c ts A' n' c' ss V m d vs _ (hh.out.up u.out) (hh'.out.up' u.out) (hvv.out.up u.out) hn hn' hm).mono ?_; rintro e w1 ⟨rfl, b1⟩; rw [hg]; replace u := Lib.hid (u.out.trans (b1.mono u.out.size)); replace q1 := Lib.hid (rowIs_below q1.out b1 q1.out.lt); replace q2 := Lib.hid (rowIs_below q2.out b1 q2.out.lt); replace qR := Lib.hid (rowIs_below qR.out b1 qR.out.lt); clear b1 hc1 hc2; have hc1 := q1.out.cell (i := 0) (by omega); have hc2 := q2.out.cell (i := 0) (by omega); have hcR := qR.out.cell (i := 0) (by omega); have hfR := qR.out.frozen 0))
    refine bodyPost_ret (results_row2 rfl _ _ (w.heap.size + 2) 55 #[.slice none 0 0] (0, 0) _ rfl (pl_one_set qR.out _) Try.underlying55 rfl (by kernel_rfl)) rfl ?_
    exact ⟨none, 0, 0, by rw [hok.out]; rfl, by rw [hr.out]; exact OwnV.nil _ _, u.out.setCell (by show w.heap.size ≤ w.heap.size + 2; omega) _⟩
  · skip
    cases hg' : poolOk ts ss vs'
    · skip
      have hok := Lib.hid (show mrgOK ts ss vs vs' = false by unfold mrgOK; rw [hg']; simp)
      have hr := Lib.hid (show mrgR ts ss vs vs' = [] by unfold mrgR; rw [if_neg (by rw [hok.out]; decide)])
      go_enter Try.func75, Try.ntmps75
      have tk0 : True := trivial
      have tk1 : True := trivial
      go_wp2_with (first
        | (clear tk0; go_at_call 112; refine (specGoodPool_any A n c ts A' n' c' ss V m d vs _ (hh.out.up u.out) (hh'.out.up' u.out) (hvv.out.up u.out) hn hn' hm).mono ?_; rintro e w1 ⟨rfl, b1⟩; rw [hg]; replace u := Lib.hid (u.out.trans (b1.mono u.out.size)); replace q1 := Lib.hid (rowIs_below q1.out b1 q1.out.lt); replace q2 := Lib.hid (rowIs_below q2.out b1 q2.out.lt); replace qR := Lib.hid (rowIs_below qR.out b1 qR.out.lt); clear b1 hc1 hc2; have hc1 := q1.out.cell (i := 0) (by omega); have hc2 := q2.out.cell (i := 0) (by omega); have hcR := qR.out.cell (i := 0) (by omega); have hfR := qR.out.frozen 0)
        | (clear tk1; go_at_call 112; refine (specGoodPool_any A n c ts A' n' c' ss V' m' d' vs' _ (hh.out.up u.out) (hh'.out.up' u.out) (hvv'.out.up u.out) hn hn' hm').mono ?_; rintro e w1 ⟨rfl, b1⟩; rw [hg']; replace u := Lib.hid (u.out.trans (b1.mono u.out.size)); replace q1 := Lib.hid (rowIs_below q1.out b1 q1.out.lt); replace q2 := Lib.hid (rowIs_below q2.out b1 q2.out.lt); replace qR := Lib.hid (rowIs_below qR.out b1 qR.out.lt); clear b1 hc1 hc2 hcR hfR; have hc1 := q1.out.cell (i := 0) (by omega); have hc2 := q2.out.cell (i := 0) (by omega); have hcR := qR.out.cell (i := 0) (by omega); have hfR := qR.out.frozen 0))
      refine bodyPost_ret (results_row2 rfl _ _ (w.heap.size + 2) 55 #[.slice none 0 0] (0, 0) _ rfl (pl_one_set qR.out _) Try.underlying55 rfl (by kernel_rfl)) rfl ?_
      exact ⟨none, 0, 0, by rw [hok.out]; rfl, by rw [hr.out]; exact OwnV.nil _ _, u.out.setCell (by show w.heap.size ≤ w.heap.size + 2; omega) _⟩
    · skip
      have hm60 : m ≤ 60 := by rw [← hlv.out]; exact (poolOk_iff'.1 hg).1.2
      have hm60' : m' ≤ 60 := by rw [← hlv'.out]; exact (poolOk_iff'.1 hg').1.2
      obtain ⟨e1, e2, e3⟩ := mrg_tell hg hg'
      rw [hlv'.out] at e1
      have k1 := Lib.hid e1; have k2 := Lib.hid e2; have k3 := Lib.hid e3; clear e1 e2 e3
      have ksl := Lib.hid (setV_len (vs ++ vs'))
      have klen : vs.length + vs'.length ≤ 120 := by rw [hlv.out, hlv'.out]; omega
      go_enter Try.func75, Try.ntmps75
      have tk0 : True := trivial
      have tk1 : True := trivial
      go_wp2_with (first
        | (clear tk0; go_at_call 112; refine (specGoodPool_any A n c ts A' n' c' ss V m d vs _ (hh.out.up u.out) (hh'.out.up' u.out) (hvv.out.up u.out) hn hn' hm).mono ?_; rintro e w1 ⟨rfl, b1⟩; rw [hg]; replace u := Lib.hid (u.out.trans (b1.mono u.out.size)); replace q1 := Lib.hid (rowIs_below q1.out b1 q1.out.lt); replace q2 := Lib.hid (rowIs_below q2.out b1 q2.out.lt); replace qR := Lib.hid (rowIs_below qR.out b1 qR.out.lt); clear b1 hc1 hc2; have hc1 := q1.out.cell (i := 0) (by omega); have hc2 := q2.out.cell (i := 0) (by omega); have hcR := qR.out.cell (i := 0) (by omega); have hfR := qR.out.frozen 0)
        | (clear tk1; go_at_call 112; refine (specGoodPool_any A n c ts A' n' c' ss V' m' d' vs' _ (hh.out.up u.out) (hh'.out.up' u.out) (hvv'.out.up u.out) hn hn' hm').mono ?_; rintro e w1 ⟨rfl, b1⟩; rw [hg']; replace u := Lib.hid (u.out.trans (b1.mono u.out.size)); replace q1 := Lib.hid (rowIs_below q1.out b1 q1.out.lt); replace q2 := Lib.hid (rowIs_below q2.out b1 q2.out.lt); replace qR := Lib.hid (rowIs_below qR.out b1 qR.out.lt); clear b1 hc1 hc2 hcR hfR; have hc1 := q1.out.cell (i := 0) (by omega); have hc2 := q2.out.cell (i := 0) (by omega); have hcR := qR.out.cell (i := 0) (by omega); have hfR := qR.out.frozen 0)
        | (go_at_call 140; refine (l6All_any V m d vs V' m' d' vs' _ (hvv.out.up u.out) (hvv'.out.up u.out) (by omega) hcap hnil'.out).mono ?_; rw [k1.out]; rintro e w2 ⟨A2, n2, c2, rfl, v2, cap2, nil2, b2⟩; have z2 := Lib.hid v2; have y2 := Lib.hid nil2; replace u := Lib.hid (u.out.trans (b2.mono u.out.size)); replace qR := Lib.hid (rowIs_below qR.out b2 qR.out.lt); clear v2 nil2 b2 hcR hfR hc1 hc2)
        | (go_at_call 139; refine (l6Tell_any A n c ts A' n' c' ss A2 n2 c2 (setV (vs ++ vs')) _ (hh.out.up u.out) (hh'.out.up' u.out) z2.out hn hn' (by have a1 := z2.out.1; have a2 := ksl.out; rw [List.length_append] at a2; omega) y2.out).mono ?_; rw [k2.out, k3.out]; rintro e w3 ⟨A3, n3, c3, rfl, o3, b3⟩; have o4 := Lib.hid o3; have lR := Lib.hid qR.out.lt; replace u := Lib.hid (u.out.trans (b3.mono u.out.size)); replace qR := Lib.hid (rowIs_below qR.out b3 qR.out.lt); clear o3 b3; have hcR := qR.out.cell (i := 0) (by omega); have hfR := qR.out.frozen 0))
      refine bodyPost_ret (results_row2 rfl _ _ (w.heap.size + 2) 55 #[.slice A3 n3 c3] (0, 0) _ rfl (pl_one_set qR.out _) Try.underlying55 rfl (by kernel_rfl)) rfl ?_
      exact ⟨A3, n3, c3, rfl, (o4.out.setBox lR.out _).fewer (by have := lR.out; omega), u.out.setCell (by show w.heap.size ≤ w.heap.size + 2; omega) _⟩
end Go.Proofs.Ythiegfbdmmpabaa
