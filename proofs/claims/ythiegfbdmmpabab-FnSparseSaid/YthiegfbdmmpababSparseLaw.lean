/- What is proved here: the law FnSparse returns true at every two slices of bytes, and writes nothing that was there. No conditions. -/
import Derived.Test.YthiegfbdmmpababDrawLeast
import Derived.Test.YthiegfbdmmpababLeastModel
import Derived.Test.YthiegfbdmmpababMeetByTourLaw
import Derived.Test.YthiegfbdmmpababMeetImpl
import Derived.Test.YthiegfbdmmpababSameRows
import Derived.Deep.Cut
namespace Go.Proofs.Ythiegfbdmmpabab
open Go.RowKit

theorem RowsAt.upS {w w' : World} {n : Nat} {A : Option Addr} {rows : List (List Int)} (h : RowsAt w w.heap.size A n rows) (hb : Below w.heap.size w w') : RowsAt w' w'.heap.size A n rows := (h.below hb).more hb.size
theorem IntsAt.upS {w w' : World} {A : Option Addr} {n : Nat} {xs : List Int} (h : IntsAt w w.heap.size A n xs) (hb : Below w.heap.size w w') : IntsAt w' w'.heap.size A n xs := (h.below hb).more hb.size

set_option maxHeartbeats 6400000 in
set_option maxRecDepth 100000 in
theorem lawSparse (A A' : Option Addr) (n n' c c' : Nat) (w : World) (h : BytesIn w A n) (h' : BytesIn w A' n') (hr : n ≤ 140737488351232) (hr' : n' ≤ 140737488351232) :
    Calls Try.prog 6 #[.slice A n c, .slice A' n' c'] w fun e w' => e = .returned (.bool true) ∧ Below w.heap.size w w' := by
  by_cases hlen : n + n' ≤ 1048576
  · have hlen' : ¬ (1048576 : Int) < (n : Int) + (n' : Int) := by omega
    have h2' := Lib.hid h'
    have h1' := Lib.hid h
    clear h'
    go_enter Try.func6, Try.ntmps6
    go_wp2_with fail
    refine (drawSparse_any A n c w h (by omega)).mono ?_
    rintro e w1 ⟨A1, n1, c1, l, rfl, k1, hn1, hc1, b1⟩
    have hl1 := Lib.hid k1.1
    have k1' := Lib.hid k1; have uw1 := Lib.hid b1
    clear k1 b1 h
    have hm : n1 ≤ 1048576 := by omega
    have hq0 : (goodN l != goodN l) = false := by simp
    have hsh := Lib.hid (spR_short l)
    go_wp2_with fail
    refine (implSparse_any _ _ _ l _ k1'.out hm).mono ?_
    rintro e w2 ⟨A6, n6, c6, rfl, hl6, o6, b2⟩
    have hn6 : n6 ≤ 100 := by rw [← hl6]; exact spR_len l
    have hl6' := Lib.hid hl6
    have p2 := Lib.hid (o6.at hl6 (fun _ _ => rfl))
    have k2 := Lib.hid (k1'.out.upS b2); have uw2 := Lib.hid (uw1.out.trans (b2.mono uw1.out.size)); clear b2 k1' uw1 hl6 o6
    go_wp2_with fail
    refine (specSparse_any _ _ _ l _ k2.out hm).mono ?_
    rintro e w3 ⟨A0, n0, c0, rfl, hl0, o0, b3⟩
    have hn0 : n0 = n6 := by rw [← hl0]; exact hl6'.out
    subst hn0
    have s3 := Lib.hid (o0.at hl0 (fun _ _ => rfl))
    have p3 := Lib.hid (p2.out.upS b3)
    have k3 := Lib.hid (k2.out.upS b3); have uw3 := Lib.hid (uw2.out.trans (b3.mono uw2.out.size)); clear b3 k2 uw2 o0 p2 hl0
    go_wp2_with fail
    refine (sameRows_any A6 A0 n0 c6 c0 w3.heap.size _ w3 p3.out s3.out hsh.out (by omega)).mono ?_
    rintro e w4 ⟨rfl, d4, hw4⟩
    have b4 : Below w3.heap.size w3 w4 := by rw [hw4]; exact below_drewN (Below.refl _ _) d4
    have p4 := Lib.hid (p3.out.upS b4); have k4 := Lib.hid (k3.out.upS b4); have uw4 := Lib.hid (uw3.out.trans (b4.mono uw3.out.size))
    clear b4 hw4 p3 s3 k3 uw3
    go_upto_if 62 with fail
    go_cut [7, 9] from 35 (fun _ _ wc => Hid (Below w.heap.size w wc))
    case first =>
      cases hg : goodN l
      · go_wp2_with fail
        go_meet
        case rel => exact uw4
      · have hLb : 1 ≤ n1 ∧ n1 ≤ 60 := by
          have := hg
          unfold goodN at this
          rw [Bool.and_eq_true, inB_iff, hl1.out] at this
          omega
        have hrR := Lib.hid (show spR l = spT l by unfold spR; rw [hg]; rfl)
        have hn1z : ((n1 : Int) == 0) = false := by simp; omega
        have hg' := Lib.hid hg
        clear hq0 hg
        go_wp2_with fail
        refine (numberOf_any A' n' c' w4 (h2'.out.below uw4.out) (by omega)).mono ?_
        rintro e w5 ⟨X, rfl, X0, X1, rfl⟩
        obtain ⟨F, hF⟩ : ∃ F : Nat, X % (n1 : Int) = F := ⟨(X % (n1 : Int)).toNat, by have := Int.emod_nonneg X (show (n1 : Int) ≠ 0 by omega); omega⟩
        have hF2 : Int.tmod X (n1 : Int) = F := by rw [Int.tmod_eq_emod_of_nonneg X0]; exact hF
        have hFn : F < n1 := by have := Int.emod_lt_of_pos X (show (0 : Int) < n1 by omega); omega
        obtain ⟨G, hG⟩ : ∃ G, G = n1 - F := ⟨_, rfl⟩
        have hG1 : (n1 : Int) - (F : Int) = (G : Int) := by omega
        have hGz : ((G : Int) == 0) = false := by simp; omega
        have hG0 : 0 < G := by omega
        have hGn := Lib.hid hG
        clear hG
        go_wp2_with fail
        refine (numberOf_any A n c w4 (h1'.out.below uw4.out) (by omega)).mono ?_
        rintro e w5 ⟨Y, rfl, Y0, Y1, rfl⟩
        obtain ⟨H, hH⟩ : ∃ H : Nat, Y % (G : Int) = H := ⟨(Y % (G : Int)).toNat, by have := Int.emod_nonneg Y (show (G : Int) ≠ 0 by omega); omega⟩
        have hH2 : Int.tmod Y (G : Int) = H := by rw [Int.tmod_eq_emod_of_nonneg Y0]; exact hH
        have hHn : H < G := by have := Int.emod_lt_of_pos Y (show (0 : Int) < G by omega); omega
        obtain ⟨T, hT⟩ : ∃ T, T = F + 1 + H := ⟨_, rfl⟩
        have hT1 : (F : Int) + 1 + (H : Int) = (T : Int) := by omega
        have hTn : T ≤ n1 := by have := hGn.out; omega
        have hFT : F < T := by omega
        have hT' := Lib.hid hT
        clear hT
        have htab := Lib.hid (show tabOk (spR l) = true by
          have h0 : rowG (spT l) 0 = l := spT_row (by rw [spN_in (by rw [hl1.out]; omega)]; rw [hl1.out]; simp; omega)
          unfold tabOk; rw [hrR.out, h0, hg'.out, spT_len]
          have : eqRB (spT l) (spT l) = true := by unfold eqRB; simp
          rw [this, decide_eq_true ((spN_in (by rw [hl1.out]; omega)).2 (by rw [hl1.out]; simp; omega))]; rfl)
        have h0r := Lib.hid (show rowG (spR l) 0 = l by rw [hrR.out]; exact spT_row (by rw [spN_in (by rw [hl1.out]; omega)]; rw [hl1.out]; simp; omega))
        have hok := Lib.hid (show leastOk (spR l) F T = true by
          unfold leastOk; rw [htab.out, h0r.out, hl1.out, decide_eq_true (show (0 : Int) ≤ F by omega), decide_eq_true (show (F : Int) < T by omega), decide_eq_true (show (T : Int) ≤ n1 by omega)]; rfl)
        have hval := Lib.hid (show leastR (spR l) F T = minTo l F (T - F) by unfold leastR; rw [hok.out, h0r.out]; simp)
        have hcall := Lib.hid (implLeast_any A6 n0 c6 (spR l) F T w4 p4.out (short_few hsh.out) (by omega))
        rw [hok.out, hval.out] at hcall
        go_wp2_with fail
        refine hcall.out.mono ?_
        rintro e w6 ⟨rfl, b6⟩
        obtain ⟨D, hD⟩ : ∃ D, D = T - F := ⟨_, rfl⟩
        rw [← hD]
        obtain ⟨D', hD'⟩ : ∃ D', D = D' + 1 := ⟨D - 1, by omega⟩
        have hmin := Lib.hid (show IsMin l F T (minTo l F D) by have := minTo_min l F D'; rw [← hD'] at this; rwa [show F + D = T by omega] at this)
        have htwo := Lib.hid (two_rows (l := l) hFT (by rw [hl1.out]; exact hTn) (by rw [hl1.out]; omega))
        rw [← hD] at htwo
        generalize minTo l F D = mm at hmin htwo ⊢
        have k6 := Lib.hid (k4.out.upS b6); have p6 := Lib.hid (p4.out.upS b6); have uw6 := Lib.hid (uw4.out.trans (b6.mono uw4.out.size))
        obtain ⟨gb, gof, eA, hgc⟩ := slice_cell k6.out (by omega)
        have hgc' := Lib.hid hgc
        have hgl := World.block_lt_of_cell? _ _ (hgc 0 (by omega))
        subst eA
        have hsub := Lib.hid (show IntsAt w6 w6.heap.size (some ⟨gb, gof + F, none⟩) (T - F) ((l.drop F).take (T - F)) from
          ⟨by rw [List.length_take, List.length_drop, hl1.out]; omega, fun j hj => ⟨gb, gof + F, rfl, hgl, by
            rw [Nat.add_assoc, hgc'.out (F + j) (by omega), List.getElem?_take_of_lt hj, List.getElem?_drop]⟩⟩)
        have hin := Lib.hid (show decide (mm ∈ (l.drop F).take (T - F)) = true by
          obtain ⟨⟨t, t1, t2, et⟩, _⟩ := hmin.out
          rw [decide_eq_true_iff, ← et]
          refine List.mem_iff_getElem?.2 ⟨t - F, ?_⟩
          rw [List.getElem?_take_of_lt (by omega), List.getElem?_drop, show F + (t - F) = t by omega, List.getElem?_eq_getElem (by rw [hl1.out]; omega)]; rfl)
        have hDh := Lib.hid hD
        have hTF : (T : Int) - (F : Int) = (D : Int) := by omega
        have hTc : T ≤ c1 := by omega
        have hFc : F < c1 := by omega
        have hDn : D ≤ 60 := by omega
        have hqa : decide ((F : Int) < 0) = false := decide_eq_false (by omega)
        have hqb : decide (T ≤ F) = false := decide_eq_false (by omega)
        have hqc : decide (n1 < T) = false := decide_eq_false (by omega)
        clear hgc b6 hcall k4 p4 hD hD' hT1 hH hH2 hF hF2 hG1 hGz
        obtain ⟨K, hK⟩ : ∃ K, Hid (logN D = K) := ⟨_, Lib.hid rfl⟩
        have hpow := Lib.hid (show ∀ k, k < K → 2 * 2 ^ k ≤ D from fun k hk => by
          have h1 := (logN_ok (m := D) (by have := hDh.out; omega) hDn).2.1
          rw [hK.out] at h1
          have h2 : 2 ^ (k + 1) ≤ 2 ^ K := Nat.pow_le_pow_right (by decide) hk
          rw [Nat.pow_succ] at h2
          omega)
        have hK5 : K ≤ 5 := by
          have h1 := (logN_ok (m := D) (by have := hDh.out; omega) hDn).2.1
          rw [hK.out] at h1
          rcases Nat.lt_or_ge K 6 with h | h
          · omega
          · have h2 : 2 ^ 6 ≤ 2 ^ K := Nat.pow_le_pow_right (by decide) h
            have h3 : (2 : Nat) ^ 6 = 64 := rfl
            omega
        by_cases hF0 : F = 0
        · as_aux_lemma =>
          subst hF0
          go_wp2_with fail
          refine (has_any _ _ _ w6.heap.size _ mm w6 hsub.out (by omega)).mono ?_
          rintro e w7 ⟨rfl, rfl⟩
          rw [hin.out]
          go_wp2_with fail
          go_loop [15, 101] (fun _ i => ∃ j : Nat, j ≤ D ∧ i = .int .i64 j) (fun _ i => D - (intOf i).toNat)
          case atStart => exact ⟨0, Nat.zero_le _, rfl⟩
          case round =>
            obtain ⟨j, hj, rfl⟩ := hrel
            by_cases hjD : j < D
            · have hDe := hDh.out
              have hcj := hgc'.out (0 + j) (by omega)
              have hge := hmin.out.2 (0 + j) (by omega) (by omega)
              rw [Nat.zero_add] at hcj
              rw [Nat.zero_add] at hge
              have hj1 : j < T := by omega
              have hj2 : (j : Int) < (T : Int) := by omega
              clear hDe
              generalize l[j]?.getD 0 = y at hcj hge
              have hlt : ¬ y < mm := by omega
              go_wp2_with fail
              go_round
              case rel => exact ⟨j + 1, by omega, by go_num⟩
              case measure => simp [intOf]; omega
            · have hDe := hDh.out
              have hj1 : T ≤ j := by omega
              have hj2 : ¬ (j : Int) < (T : Int) := by omega
              clear hDe
              go_wp2_with fail
              go_loop [16] (fun kv => ∃ k : Nat, k ≤ K ∧ kv = .int .i64 k) (fun kv => K - (intOf kv).toNat)
              case atStart => exact ⟨0, Nat.zero_le _, rfl⟩
              case round =>
                obtain ⟨k, hk, rfl⟩ := hrel
                by_cases hkK : k < K
                · have h2 := Lib.hid (hpow.out k hkK)
                  have h6 : k = 0 ∨ k = 1 ∨ k = 2 ∨ k = 3 ∨ k = 4 := by omega
                  rcases h6 with rfl | rfl | rfl | rfl | rfl
                  all_goals
                    have h3 := h2.out
                    simp only [Nat.reducePow, Nat.reduceMul] at h3
                    go_wp2_with fail
                    go_round
                    case rel => first | exact ⟨1, by omega, by go_num⟩ | exact ⟨2, by omega, by go_num⟩ | exact ⟨3, by omega, by go_num⟩ | exact ⟨4, by omega, by go_num⟩ | exact ⟨5, by omega, by go_num⟩
                    case measure => simp [intOf]; omega
                · have hkK' : k = K := by omega
                  subst hkK'
                  have hlo := logN_ok (m := D) (by have := hDh.out; omega) hDn
                  have htw := htwo.out
                  rw [hK.out] at hlo htw
                  have hDe := hDh.out
                  have hsp : k < spN l.length := (spN_in (by rw [hl1.out]; omega)).2 (by rw [hl1.out]; omega)
                  have hkn : k < n0 := by rw [← hl6'.out, hrR.out, spT_len]; exact hsp
                  have hrow : rowG (spR l) k = spRow l k := by rw [hrR.out]; exact spT_row hsp
                  obtain ⟨sb, sof, Ai, ci, eS, hslt, hsc, hri⟩ := p6.out.row k hkn
                  rw [hrow, spRow_len, hl1.out] at hsc hri
                  obtain ⟨rb, rof, eR, hrc⟩ := slice_cell hri (by omega)
                  obtain ⟨V, hV⟩ : ∃ V, V = T - 2 ^ k := ⟨_, rfl⟩
                  have ca := hrc 0 (by omega)
                  rw [Nat.add_zero] at ca
                  have cb := hrc V (by omega)
                  have ma := (spRow_min l k 0 (by rw [hl1.out]; omega)).1
                  have mb := (spRow_min l k V (by rw [hl1.out]; omega)).1
                  rw [← hV] at htw
                  generalize (spRow l k)[0]?.getD 0 = x1 at ca ma htw
                  generalize (spRow l k)[V]?.getD 0 = y1 at cb mb htw
                  have hx1 : ¬ x1 < mm := by obtain ⟨t, t1, t2, et⟩ := ma; have := hmin.out.2 t (by omega) (by omega); omega
                  have hy1 : ¬ y1 < mm := by obtain ⟨t, t1, t2, et⟩ := mb; have := hmin.out.2 t (by omega) (by omega); omega
                  have hxy : x1 = mm ∨ y1 = mm := by unfold minI at htw; split at htw <;> first | exact Or.inl htw | exact Or.inr htw
                  obtain ⟨R, hR⟩ : ∃ R, R = n1 + 1 - 2 ^ k := ⟨_, rfl⟩
                  rw [← hR] at hsc
                  have hFR : 0 < R := by omega
                  have hVR : V < R := by omega
                  have hlo1 := hlo.2.1
                  have hlo2 := hlo.2.2
                  have h6 : k = 0 ∨ k = 1 ∨ k = 2 ∨ k = 3 ∨ k = 4 ∨ k = 5 := by omega
                  subst eS
                  subst eR
                  clear htw ma mb hri hrc hrow hsp hlo p6 hpow hK
                  rcases h6 with rfl | rfl | rfl | rfl | rfl | rfl
                  all_goals
                    simp only [Nat.reducePow, Nat.reduceMul, Nat.add_zero] at hlo1 hlo2 hV hsc
                    subst hV
                    by_cases hxm : x1 = mm
                    · go_wp2_with fail
                      go_meet
                      case rel => exact uw6
                    · have hym : y1 = mm := by rcases hxy with h | h
                                               · exact absurd h hxm
                                               · exact h
                      go_wp2_with fail
                      go_meet
                      case rel => exact uw6
        · as_aux_lemma =>
          go_wp2_with fail
          refine (has_any _ _ _ w6.heap.size _ mm w6 hsub.out (by omega)).mono ?_
          rintro e w7 ⟨rfl, rfl⟩
          rw [hin.out]
          go_wp2_with fail
          go_loop [15, 101] (fun _ i => ∃ j : Nat, j ≤ D ∧ i = .int .i64 j) (fun _ i => D - (intOf i).toNat)
          case atStart => exact ⟨0, Nat.zero_le _, rfl⟩
          case round =>
            obtain ⟨j, hj, rfl⟩ := hrel
            by_cases hjD : j < D
            · have hDe := hDh.out
              have hcj := hgc'.out (F + j) (by omega)
              have hge := hmin.out.2 (F + j) (by omega) (by omega)
              rw [← Nat.add_assoc] at hcj
              have hj1 : j < T - F := by omega
              have hj2 : (j : Int) < ((T - F : Nat) : Int) := by omega
              have hj3 : j < T := by omega
              clear hDe
              generalize l[F + j]?.getD 0 = y at hcj hge
              have hlt : ¬ y < mm := by omega
              go_wp2_with fail
              go_round
              case rel => exact ⟨j + 1, by omega, by go_num⟩
              case measure => simp [intOf]; omega
            · have hDe := hDh.out
              have hj1 : T - F ≤ j := by omega
              have hj2 : ¬ (j : Int) < ((T - F : Nat) : Int) := by omega
              clear hDe
              go_wp2_with fail
              go_loop [16] (fun kv => ∃ k : Nat, k ≤ K ∧ kv = .int .i64 k) (fun kv => K - (intOf kv).toNat)
              case atStart => exact ⟨0, Nat.zero_le _, rfl⟩
              case round =>
                obtain ⟨k, hk, rfl⟩ := hrel
                by_cases hkK : k < K
                · have h2 := Lib.hid (hpow.out k hkK)
                  have h6 : k = 0 ∨ k = 1 ∨ k = 2 ∨ k = 3 ∨ k = 4 := by omega
                  rcases h6 with rfl | rfl | rfl | rfl | rfl
                  all_goals
                    have h3 := h2.out
                    simp only [Nat.reducePow, Nat.reduceMul] at h3
                    go_wp2_with fail
                    go_round
                    case rel => first | exact ⟨1, by omega, by go_num⟩ | exact ⟨2, by omega, by go_num⟩ | exact ⟨3, by omega, by go_num⟩ | exact ⟨4, by omega, by go_num⟩ | exact ⟨5, by omega, by go_num⟩
                    case measure => simp [intOf]; omega
                · have hkK' : k = K := by omega
                  subst hkK'
                  have hlo := logN_ok (m := D) (by have := hDh.out; omega) hDn
                  have htw := htwo.out
                  rw [hK.out] at hlo htw
                  have hDe := hDh.out
                  have hsp : k < spN l.length := (spN_in (by rw [hl1.out]; omega)).2 (by rw [hl1.out]; omega)
                  have hkn : k < n0 := by rw [← hl6'.out, hrR.out, spT_len]; exact hsp
                  have hrow : rowG (spR l) k = spRow l k := by rw [hrR.out]; exact spT_row hsp
                  obtain ⟨sb, sof, Ai, ci, eS, hslt, hsc, hri⟩ := p6.out.row k hkn
                  rw [hrow, spRow_len, hl1.out] at hsc hri
                  obtain ⟨rb, rof, eR, hrc⟩ := slice_cell hri (by omega)
                  obtain ⟨V, hV⟩ : ∃ V, V = T - 2 ^ k := ⟨_, rfl⟩
                  have ca := hrc F (by omega)
                  have cb := hrc V (by omega)
                  have ma := (spRow_min l k F (by rw [hl1.out]; omega)).1
                  have mb := (spRow_min l k V (by rw [hl1.out]; omega)).1
                  rw [← hV] at htw
                  generalize (spRow l k)[F]?.getD 0 = x1 at ca ma htw
                  generalize (spRow l k)[V]?.getD 0 = y1 at cb mb htw
                  have hx1 : ¬ x1 < mm := by obtain ⟨t, t1, t2, et⟩ := ma; have := hmin.out.2 t (by omega) (by omega); omega
                  have hy1 : ¬ y1 < mm := by obtain ⟨t, t1, t2, et⟩ := mb; have := hmin.out.2 t (by omega) (by omega); omega
                  have hxy : x1 = mm ∨ y1 = mm := by unfold minI at htw; split at htw <;> first | exact Or.inl htw | exact Or.inr htw
                  obtain ⟨R, hR⟩ : ∃ R, R = n1 + 1 - 2 ^ k := ⟨_, rfl⟩
                  rw [← hR] at hsc
                  have hFR : F < R := by omega
                  have hVR : V < R := by omega
                  have hlo1 := hlo.2.1
                  have hlo2 := hlo.2.2
                  have h6 : k = 0 ∨ k = 1 ∨ k = 2 ∨ k = 3 ∨ k = 4 ∨ k = 5 := by omega
                  subst eS
                  subst eR
                  clear htw ma mb hri hrc hrow hsp hlo p6 hpow hK
                  rcases h6 with rfl | rfl | rfl | rfl | rfl | rfl
                  all_goals
                    simp only [Nat.reducePow, Nat.reduceMul, Nat.add_zero] at hlo1 hlo2 hV hsc
                    subst hV
                    by_cases hxm : x1 = mm
                    · go_wp2_with fail
                      go_meet
                      case rel => exact uw6
                    · have hym : y1 = mm := by rcases hxy with h | h
                                               · exact absurd h hxm
                                               · exact h
                      go_wp2_with fail
                      go_meet
                      case rel => exact uw6
    case rest =>
     as_aux_lemma =>
      clear hq0 hsh hm k4 p4 uw4
      have v0 := hcut
      clear hcut
      go_wp2_with fail
      refine (drawLeastIn_any A' n' c' wc (h2'.out.below v0.out) (by omega)).mono ?_
      rintro e w5 ⟨B1, m1, d1, rows, f, t, rfl, k5, hs5, hm1, hcap, b5⟩
      have k5' := Lib.hid k5; have hf5 := Lib.hid (short_few hs5); have hcap' := Lib.hid hcap
      have v5 := Lib.hid (v0.out.trans (b5.mono v0.out.size)); clear k5 b5 v0 hs5 hcap
      have hm1' : m1 ≤ 1048576 := by omega
      have hq1 : (leastOk rows f t == leastOk rows f t) = true := by simp
      have hq2 : (leastR rows f t == leastR rows f t) = true := by simp
      go_wp2_with fail
      refine (implLeast_any _ _ _ rows f t _ k5'.out hf5.out hm1').mono ?_
      rintro e w6 ⟨rfl, b6⟩
      have k6 := Lib.hid (k5'.out.upS b6)
      have hcap6 := Lib.hid (show ∀ b off Ai ci, B1 = some ⟨b, off, none⟩ → w6.cell? ⟨b, off, none⟩ = some (.slice Ai (rowG rows 0).length ci) → (rowG rows 0).length ≤ ci from fun b off Ai ci e hc => by
        by_cases hp : 0 < m1
        · obtain ⟨b2, off2, A2, c2, e2, hlt, _⟩ := k5'.out.row 0 hp
          rw [e] at e2
          cases e2
          exact hcap'.out b off Ai ci e ((b6.cell (p := ⟨b, off, none⟩) hlt).symm.trans hc)
        · have : rows = [] := List.length_eq_zero_iff.1 (by rw [k5'.out.len]; omega)
          subst this; exact Nat.zero_le _)
      have v6 := Lib.hid (v5.out.trans (b6.mono v5.out.size)); clear b6 k5' v5 hcap'
      go_wp2_with fail
      refine (specLeast_any _ _ _ rows f t _ k6.out hf5.out hm1' hcap6.out).mono ?_
      rintro e w7 ⟨rfl, b7⟩
      have v7 := Lib.hid (v6.out.trans (b7.mono v6.out.size)); clear b7 k6 v6 hcap6
      go_wp2_with fail
      refine (drawMeetTour_any A' n' c' w7 (h2'.out.below v7.out) (by omega)).mono ?_
      rintro e w8 ⟨B2, m2, d2, ts, a, b, rfl, k8, hm2, b8⟩
      have k8' := Lib.hid k8; have v8 := Lib.hid (v7.out.trans (b8.mono v7.out.size)); clear k8 b8 v7
      have hm2' : m2 ≤ 1048576 := by omega
      have hq3 : (abvOk ts a b == abvOk ts a b) = true := by simp
      have hq4 : (meetR ts a b == meetR ts a b) = true := by simp
      go_wp2_with fail
      refine (implMeetTour_any _ _ _ ts a b _ k8'.out hm2').mono ?_
      rintro e w9 ⟨rfl, b9⟩
      have k9 := Lib.hid (k8'.out.up b9); have v9 := Lib.hid (v8.out.trans (b9.mono v8.out.size)); clear b9 k8' v8
      go_wp2_with fail
      refine (specMeetTour_any _ _ _ ts a b _ k9.out hm2').mono ?_
      rintro e w10 ⟨rfl, b10⟩
      have k10 := Lib.hid (k9.out.up b10); have v10 := Lib.hid (v9.out.trans (b10.mono v9.out.size)); clear b10 k9 v9
      go_wp2_with fail
      refine (implMeet_any _ _ _ ts a b _ k10.out hm2').mono ?_
      rintro e w11 ⟨rfl, b11⟩
      have v11 := Lib.hid (v10.out.trans (b11.mono v10.out.size)); clear b11 k10 v10
      go_wp2_with fail
      go_ret
      exact ⟨rfl, v11.out⟩
  · have hlen' : (1048576 : Int) < (n : Int) + (n' : Int) := by omega
    go_enter Try.func6, Try.ntmps6
    go_wp2_with fail
    go_ret
    exact ⟨rfl, Below.refl _ _⟩
end Go.Proofs.Ythiegfbdmmpabab
