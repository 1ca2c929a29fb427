/- What is proved here: what LeastIn of the model returns. No conditions. -/
import Derived.Test.YthiegfbdmmpababLeastWalks
namespace Go.Proofs.Ythiegfbdmmpabab
open Go.RowKit

theorem eqB_iff {xs ys : List Int} : eqB xs ys = true ↔ xs = ys := by unfold eqB; simp
theorem slice_cell {w : World} {B : Nat} {A : Option Addr} {n : Nat} {xs : List Int} (h : IntsAt w B A n xs) (hn : 0 < n) : ∃ b off, A = some ⟨b, off, none⟩ ∧ ∀ k, k < n → w.cell? ⟨b, off + k, none⟩ = some (.int .i64 (xs[k]?.getD 0)) := by
  obtain ⟨b, off, e, _, _⟩ := h.2 0 hn
  refine ⟨b, off, e, fun k hk => ?_⟩
  obtain ⟨b', off', e', _, hc⟩ := h.2 k hk
  rw [e] at e'
  cases e'
  exact hc

set_option maxRecDepth 100000 in
set_option maxHeartbeats 3200000 in
theorem specLeast_any (A : Option Addr) (n c : Nat) (rows : List (List Int)) (f t : Int) (w : World) (h : RowsAt w w.heap.size A n rows) (hs : fewRows rows) (hn : n ≤ 1048576) (hcap : ∀ b off Ai ci, A = some ⟨b, off, none⟩ → w.cell? ⟨b, off, none⟩ = some (.slice Ai (rowG rows 0).length ci) → (rowG rows 0).length ≤ ci) :
    Calls Try.prog 51 #[.slice A n c, .int .i64 f, .int .i64 t] w fun e w' => e = .returned (.tuple #[.int .i64 (leastR rows f t), .bool (leastOk rows f t)]) ∧ Below w.heap.size w w' := by
  have hfin := Lib.hid (fun (e : leastOk rows f t = false) => show leastR rows f t = 0 by unfold leastR; rw [e]; rfl)
  have hr := Lib.hid h
  have hl := Lib.hid h.len
  have hsA := Lib.hid hs
  by_cases h0 : n = 0
  · have hz := Lib.hid (show leastOk rows f t = false by unfold leastOk tabOk; rw [h.len, h0]; rfl)
    subst h0
    clear h hs hcap
    go_enter Try.func51, Try.ntmps51
    go_wp2_with fail
    go_ret2
    exact ⟨by rw [hfin.out hz.out, hz.out]; rfl, Below.refl _ _⟩
  · have hpos : 0 < n := by omega
    obtain ⟨b, off, Ai, ci, e, hbl, hc, hi⟩ := h.row 0 hpos
    rw [Nat.add_zero] at hc
    have hci := hcap b off Ai ci e hc
    have hlen0 := hsA.out 0
    have hn0 : ((n : Int) == 0) = false := by simp; omega
    obtain ⟨l, hle⟩ : ∃ l, Hid (rowG rows 0 = l) := ⟨_, Lib.hid rfl⟩
    rw [hle.out] at hc hi hci hlen0
    obtain ⟨L, hL⟩ : ∃ L, Hid (l.length = L) := ⟨_, Lib.hid rfl⟩
    rw [hL.out] at hc hi hci hlen0
    have hi' := Lib.hid hi
    subst e
    clear h hs hcap hi h0
    have hnum := Lib.hid (l4Numbers_any Ai L ci w.heap.size l w hi'.out hlen0)
    cases hg : goodN l
    · have hz := Lib.hid (show leastOk rows f t = false by unfold leastOk tabOk; rw [hle.out, hg]; simp)
      rw [hg] at hnum
      clear hg
      go_enter Try.func51, Try.ntmps51
      go_wp2_with fail
      refine hnum.out.mono ?_
      rintro e w1 ⟨rfl, rfl⟩
      go_wp2_with fail
      go_ret2
      exact ⟨by rw [hfin.out hz.out, hz.out]; rfl, Below.refl _ _⟩
    · rw [hg] at hnum
      have hLb : 1 ≤ L ∧ L ≤ 60 := by
        have := hg
        unfold goodN at this
        rw [Bool.and_eq_true, inB_iff, hL.out] at this
        omega
      have hg' := Lib.hid hg
      clear hg
      go_enter Try.func51, Try.ntmps51
      go_wp2_with fail
      refine hnum.out.mono ?_
      rintro e w1 ⟨rfl, rfl⟩
      clear hnum
      go_wp2_with fail
      refine (l4Sparse_any Ai L ci w.heap.size l w hi'.out (Nat.le_refl _) (by omega) hLb.2).mono ?_
      rintro e w2 ⟨v2, rfl, r2, b2⟩
      obtain ⟨A2, c2, rfl, ro2⟩ := r2.rows
      have hG := Lib.hid (show RowsAt w2 w2.heap.size A2 (spN L) (spT l) from ro2.at (by rw [spT_len, hL.out]) (fun i hi => spT_row (by rw [hL.out]; exact hi)))
      have hN6 := spN_le (n := L) (by omega) hLb.2
      have r2' := Lib.hid ((hr.out.below b2).more b2.size)
      have u2 := Lib.hid b2
      have hc2 := (b2.cell (p := ⟨b, off, none⟩) hbl).trans hc
      have hi2 := Lib.hid (hi'.out.below b2)
      clear ro2 r2 b2 hc
      by_cases hnn : spN L = n
      · rw [hnn] at hG ⊢
        have hnn' := Lib.hid hnn
        have hne : ((n : Int) != (n : Int)) = false := by simp
        rw [hnn] at hN6
        clear hnn
        go_wp2_with fail
        go_loopw [9, 10, 35] (fun _ _ i wr => ∃ k : Nat, k ≤ n ∧ i = .int .i64 k ∧ Hid (∀ j, j < k → rowG rows j = rowG (spT l) j) ∧ Hid (Below w2.heap.size w2 wr)) (fun _ _ i _ => n - (intOf i).toNat)
        case atStart => exact ⟨0, Nat.zero_le _, rfl, Lib.hid (fun j hj => absurd hj (Nat.not_lt_zero _)), Lib.hid (Below.refl _ _)⟩
        case round =>
          obtain ⟨k, hk, rfl, hall, hbq⟩ := hrel
          by_cases hlt : k < n
          · obtain ⟨g1, f1, B1, d1, e1, hg1, hcg0, hig⟩ := hG.out.row k hlt
            obtain ⟨g2, f2, B2, d2, e2, hg2, hcr0, hir⟩ := r2'.out.row k hlt
            cases e2
            have hcg := (hbq.out.cell (p := ⟨g1, f1 + k, none⟩) hg1).trans hcg0
            have hcr := (hbq.out.cell (p := ⟨b, off + k, none⟩) hg2).trans hcr0
            have hshort := spR_short l k
            have hgl : (rowG (spT l) k).length ≤ 1048576 := by
              unfold spR at hshort; rw [hg'.out] at hshort; simp only [if_true] at hshort; omega
            have hcon := Lib.hid (l1Same_any B1 B2 _ _ d1 d2 w2.heap.size _ _ wr (hig.below hbq.out) (hir.below hbq.out) hgl (hsA.out k))
            generalize (rowG (spT l) k).length = M1 at hcg hcon
            generalize (rowG rows k).length = M2 at hcr hcon
            subst e1
            clear hcg0 hcr0 hig hir hshort hgl
            cases hq : eqB (rowG (spT l) k) (rowG rows k)
            · have hz := Lib.hid (show leastOk rows f t = false by
                have hne' : tabOk rows = false := by
                  unfold tabOk; rw [hle.out]
                  have : eqRB rows (spT l) = false := eqRB_no (k := k) (fun e => by
                    unfold eqB at hq; rw [e] at hq; simp at hq)
                  rw [this]; simp
                unfold leastOk; rw [hne']; rfl)
              rw [hq] at hcon
              clear hq
              go_wp2_with fail
              refine hcon.out.mono ?_
              rintro e w3 ⟨rfl, m3, hw3⟩
              have u3 := Lib.hid (show Below w.heap.size w w3 by rw [hw3]; exact below_drewN (u2.out.trans (hbq.out.mono u2.out.size)) m3)
              clear hw3
              go_wp2_with fail
              go_ret2
              exact ⟨by rw [hfin.out hz.out, hz.out]; rfl, u3.out⟩
            · have hq' := Lib.hid (show rowG rows k = rowG (spT l) k from (eqB_iff.1 hq).symm)
              rw [hq] at hcon
              clear hq
              go_wp2_with fail
              refine hcon.out.mono ?_
              rintro e w3 ⟨rfl, m3, hw3⟩
              have u3 := Lib.hid (show Below w2.heap.size w2 w3 by rw [hw3]; exact below_drewN hbq.out m3)
              clear hw3
              go_wp2_with fail
              go_roundw
              case rel =>
                refine ⟨k + 1, by omega, by go_num, Lib.hid (fun j hj => ?_), u3⟩
                by_cases e : j = k
                · subst e; exact hq'.out
                · exact hall.out j (by omega)
              case measure => simp [intOf]; omega
          · have htab := Lib.hid (show tabOk rows = true by
              unfold tabOk; rw [hle.out, hg'.out, hl.out, decide_eq_true hpos, eqRB_yes (by rw [hl.out, spT_len, hL.out]; exact hnn'.out.symm) (fun j hj => hall.out j (by rw [hl.out] at hj; omega))]; rfl)
            have hcq := (hbq.out.cell (p := ⟨b, off, none⟩) (Nat.lt_of_lt_of_le hbl u2.out.size)).trans hc2
            have uq := Lib.hid (u2.out.trans (hbq.out.mono u2.out.size))
            have iq := Lib.hid (hi2.out.below (hbq.out.mono u2.out.size))
            clear hc2 hlen0
            by_cases hf0 : f < 0
            · have hz := Lib.hid (show leastOk rows f t = false by unfold leastOk; rw [decide_eq_false (show ¬ 0 ≤ f by omega)]; simp)
              go_wp2_with fail
              go_ret2
              exact ⟨by rw [hfin.out hz.out, hz.out]; rfl, uq.out⟩
            · by_cases hft : t ≤ f
              · have hz := Lib.hid (show leastOk rows f t = false by unfold leastOk; rw [decide_eq_false (show ¬ f < t by omega)]; simp)
                go_wp2_with fail
                go_ret2
                exact ⟨by rw [hfin.out hz.out, hz.out]; rfl, uq.out⟩
              · by_cases htl : (L : Int) < t
                · have hz := Lib.hid (show leastOk rows f t = false by unfold leastOk; rw [hle.out, hL.out, decide_eq_false (show ¬ t ≤ (L : Int) by omega)]; simp)
                  go_wp2_with fail
                  go_ret2
                  exact ⟨by rw [hfin.out hz.out, hz.out]; rfl, uq.out⟩
                · obtain ⟨F, rfl⟩ : ∃ F : Nat, f = F := ⟨f.toNat, by omega⟩
                  obtain ⟨T, rfl⟩ : ∃ T : Nat, t = T := ⟨t.toNat, by omega⟩
                  have hz := Lib.hid (show leastOk rows F T = true by unfold leastOk; rw [htab.out, hle.out, hL.out, decide_eq_true (show (0 : Int) ≤ F by omega), decide_eq_true (show (F : Int) < T by omega), decide_eq_true (show (T : Int) ≤ L by omega)]; rfl)
                  have hv := Lib.hid (show leastR rows F T = minTo l F (T - F) by unfold leastR; rw [hz.out, hle.out]; simp)
                  have hFT : F < T := by omega
                  have hTL : T ≤ L := by omega
                  have hFL : F < L := by omega
                  have hTc : T ≤ ci := by omega
                  have hFc : F < ci := by omega
                  obtain ⟨gb, gof, eA, hgc⟩ := slice_cell iq.out (by omega)
                  have hcF := hgc F hFL
                  have hgc' := Lib.hid hgc
                  subst eA
                  obtain ⟨x0, hx0⟩ : ∃ x0, Hid (l[F]?.getD 0 = x0) := ⟨_, Lib.hid rfl⟩
                  rw [hx0.out] at hcF
                  clear hgc hfin
                  have hqa : decide ((F : Int) < 0) = false := decide_eq_false (by omega)
                  have hqb : decide (T ≤ F) = false := decide_eq_false (by omega)
                  have hqc : decide (L < T) = false := decide_eq_false (by omega)
                  obtain ⟨D, hD⟩ : ∃ D, T = F + D := ⟨T - F, by omega⟩
                  have hDd := Lib.hid (show T - F = D by omega)
                  rw [hDd.out] at hv
                  have hD1 : D ≤ 60 := by omega
                  have hDT := Lib.hid hD
                  have hTF : (T : Int) - (F : Int) = (D : Int) := by omega
                  clear hD
                  by_cases hF0 : F = 0
                  · subst hF0
                    rw [Nat.add_zero] at hcF
                    have hT0 : ¬ T = 0 := by omega
                    have hLT : ¬ L < T := by omega
                    go_wp2_with fail
                    go_loop [11, 13, 76] (fun nv _ i => ∃ j : Nat, j ≤ D ∧ i = .int .i64 j ∧ nv = .int .i64 (minTo l 0 j)) (fun _ _ i => D - (intOf i).toNat)
                    case atStart => exact ⟨0, Nat.zero_le _, rfl, by rw [← hx0.out]; rfl⟩
                    case round =>
                      obtain ⟨j, hj, rfl, rfl⟩ := hrel
                      by_cases hjD : j < D
                      · have hcj := hgc'.out (0 + j) (by omega)
                        rw [Nat.zero_add] at hcj
                        have hst := Lib.hid (show minTo l 0 (j + 1) = minI (minTo l 0 j) (l[j]?.getD 0) by show minI _ (l[0 + j]?.getD 0) = _; rw [Nat.zero_add])
                        have hj1 : j < T - 0 := by omega
                        have hj2 : (j : Int) < ((T - 0 : Nat) : Int) := by omega
                        have hj3 : j < T := by omega
                        generalize l[j]?.getD 0 = y at hcj hst
                        go_wp2_with fail
                        refine (l1Least_any _ _ _).mono ?_
                        rintro e w4 ⟨rfl, rfl⟩
                        rw [← hst.out]
                        go_wp2_with fail
                        go_round
                        case rel => exact ⟨j + 1, by omega, by go_num, rfl⟩
                        case measure => simp [intOf]; omega
                      · have hjD' : j = D := by omega
                        have hj1 : T - 0 ≤ j := by omega
                        have hj2 : ¬ (j : Int) < ((T - 0 : Nat) : Int) := by omega
                        rw [hjD'] at *
                        go_wp2_with fail
                        go_ret2
                        exact ⟨by rw [show leastOk rows 0 (T : Int) = true from hz.out, show leastR rows 0 (T : Int) = minTo l 0 D from hv.out]; rfl, uq.out⟩
                  · go_wp2_with fail
                    go_loop [11, 13, 76] (fun nv _ i => ∃ j : Nat, j ≤ D ∧ i = .int .i64 j ∧ nv = .int .i64 (minTo l F j)) (fun _ _ i => D - (intOf i).toNat)
                    case atStart => exact ⟨0, Nat.zero_le _, rfl, by rw [← hx0.out]; rfl⟩
                    case round =>
                      obtain ⟨j, hj, rfl, rfl⟩ := hrel
                      by_cases hjD : j < D
                      · have hcj := hgc'.out (F + j) (by omega)
                        rw [← Nat.add_assoc] at hcj
                        have hst := Lib.hid (show minTo l F (j + 1) = minI (minTo l F j) (l[F + j]?.getD 0) from rfl)
                        have hj1 : j < T - F := by omega
                        have hj2 : (j : Int) < ((T - F : Nat) : Int) := by omega
                        have hj3 : j < T := by omega
                        generalize l[F + j]?.getD 0 = y at hcj hst
                        go_wp2_with fail
                        refine (l1Least_any _ _ _).mono ?_
                        rintro e w4 ⟨rfl, rfl⟩
                        rw [← hst.out]
                        go_wp2_with fail
                        go_round
                        case rel => exact ⟨j + 1, by omega, by go_num, rfl⟩
                        case measure => simp [intOf]; omega
                      · have hjD' : j = D := by omega
                        have hj1 : T - F ≤ j := by omega
                        have hj2 : ¬ (j : Int) < ((T - F : Nat) : Int) := by omega
                        rw [hjD'] at *
                        go_wp2_with fail
                        go_ret2
                        exact ⟨by rw [hz.out, hv.out]; rfl, uq.out⟩
      · have hne : ((spN L : Int) != (n : Int)) = true := by simp; omega
        have hz := Lib.hid (show leastOk rows f t = false by
          have hne' : tabOk rows = false := by
            unfold tabOk; rw [hle.out]
            have : eqRB rows (spT l) = false := eqRB_len (by rw [hl.out, spT_len, hL.out]; exact fun e => hnn e.symm)
            rw [this]; simp
          unfold leastOk; rw [hne']; rfl)
        go_wp2_with fail
        go_ret2
        exact ⟨by rw [hfin.out hz.out, hz.out]; rfl, u2.out⟩
end Go.Proofs.Ythiegfbdmmpabab
