/- What is proved here: the law FnOrder returns true at every two slices of bytes, and writes nothing that was there. No conditions. -/
import Derived.Test.YtoppgckmcclfpaaOrderFacts
import Derived.Test.YtoppgckmcclfpaaSpansOfLaw
import Derived.Test.YtoppgckmcclfpaaSameRows
import Derived.Test.YtoppgckmcclfpaaDrawOrder
import Derived.Deep.Cut
namespace Go.Proofs.Ytoppgckmcclfpaa
open Go.RowKit

theorem wrap_sub_nat {a b c : Nat} (h : a = b + c) (hc : a ≤ 1000) : IntKind.i64.wrap ((a : Int) - (b : Int)) = (c : Int) := by rw [IntKind.wrap_i64]; omega
theorem RowsAt.up {w w' : World} {n : Nat} {A : Option Addr} {rows : List (List Int)} (h : RowsAt w w.heap.size A n rows) (hb : Below w.heap.size w w') : RowsAt w' w'.heap.size A n rows := (h.below hb).more hb.size

set_option maxHeartbeats 6400000 in
set_option maxRecDepth 100000 in
theorem lawOrder (A A' : Option Addr) (n n' c c' : Nat) (w : World) (h : BytesIn w A n) (h' : BytesIn w A' n') (hr : n ≤ 140737488351232) (hr' : n' ≤ 140737488351232) :
    Calls Try.prog 5 #[.slice A n c, .slice A' n' c'] w fun e w' => e = .returned (.bool true) ∧ Below w.heap.size w w' := by
  by_cases hlen : n + n' ≤ 1048576
  · have hlen' : ¬ (1048576 : Int) < (n : Int) + (n' : Int) := by omega
    have h2' := Lib.hid h'
    clear h'
    go_enter Try.func5, Try.ntmps5
    go_wp2_with fail
    refine (drawSpans_any A n c w h (by omega)).mono ?_
    rintro e w1 ⟨A1, n1, c1, ts, rfl, k1, hn1, b1⟩
    have hl1 := Lib.hid k1.1
    have k1' := Lib.hid k1; have uw1 := Lib.hid b1
    clear k1 b1 h
    have hm : n1 ≤ 1048576 := by omega
    have hq0 : (goodT ts != goodT ts) = false := by simp
    have hsh := Lib.hid (spansR_short ts)
    have hqo : eqB (ordR ts) (ordR ts) = true := eqB_yes rfl (fun _ _ => rfl)
    have hqt : eqB (tourR ts) (tourR ts) = true := eqB_yes rfl (fun _ _ => rfl)
    have hlo := Lib.hid (ordR_len ts)
    have hlt := Lib.hid (tourR_len ts)
    go_wp2_with fail
    refine (implSpans_any _ _ _ ts _ k1'.out hm).mono ?_
    rintro e w2 ⟨A6, n6, c6, rfl, hl6, o6, b2⟩
    have hn6 : n6 ≤ 100 := by rw [← hl6]; exact spansR_len ts
    have hl6' := Lib.hid hl6
    have p2 := Lib.hid (o6.at hl6 (fun _ _ => rfl))
    have k2 := Lib.hid (k1'.out.up b2); have uw2 := Lib.hid (uw1.out.trans (b2.mono uw1.out.size)); clear b2 k1' uw1 hl6 o6
    go_wp2_with fail
    refine (specSpans_S _ _ _ ts _ k2.out hm).mono ?_
    rintro e w3 ⟨A0, n0, c0, rfl, o0, b3⟩
    have hn0 : n0 = n6 := by rw [← o0.len]; exact hl6'.out
    subst hn0
    have s3 := Lib.hid o0
    have p3 := Lib.hid (p2.out.up b3)
    have k3 := Lib.hid (k2.out.up b3); have uw3 := Lib.hid (uw2.out.trans (b3.mono uw2.out.size)); clear b3 k2 uw2 o0 p2
    go_wp2_with fail
    refine (implOrder_ok _ _ _ ts _ k3.out hm).mono ?_
    rintro e w4 ⟨A7, n7, c7, rfl, o4, b4⟩
    have hn7 : n7 ≤ 100 := by rw [← o4.len]; exact hlo.out
    have hl7 := Lib.hid o4.len
    have o4' := Lib.hid o4
    have p4 := Lib.hid (p3.out.up b4); have s4 := Lib.hid (s3.out.up b4)
    have k4 := Lib.hid (k3.out.up b4); have uw4 := Lib.hid (uw3.out.trans (b4.mono uw3.out.size)); clear b4 k3 uw3 o4 p3 s3
    go_wp2_with fail
    refine (specOrder_ok _ _ _ ts _ k4.out hm).mono ?_
    rintro e w5 ⟨A8, n8, c8, rfl, o5, b5⟩
    have hn8 : n8 ≤ 100 := by rw [← o5.len]; exact hlo.out
    have x5 := Lib.hid o5
    have o5' := Lib.hid (o4'.out.below b5)
    have p5 := Lib.hid (p4.out.up b5); have s5 := Lib.hid (s4.out.up b5)
    have k5 := Lib.hid (k4.out.up b5); have uw5 := Lib.hid (uw4.out.trans (b5.mono uw4.out.size)); clear b5 k4 uw4 o5 p4 s4 o4'
    go_wp2_with fail
    refine (implTour_ok _ _ _ ts _ k5.out hm).mono ?_
    rintro e w6 ⟨A9, n9, c9, rfl, o6, b6⟩
    have hn9 : n9 ≤ 100 := by rw [← o6.len]; exact hlt.out
    have hl9 := Lib.hid o6.len
    have y6 := Lib.hid o6
    have x6 := Lib.hid (x5.out.below b6)
    have o6' := Lib.hid (o5'.out.below b6)
    have p6 := Lib.hid (p5.out.up b6); have s6 := Lib.hid (s5.out.up b6)
    have k6 := Lib.hid (k5.out.up b6); have uw6 := Lib.hid (uw5.out.trans (b6.mono uw5.out.size)); clear b6 k5 uw5 o6 p5 s5 o5' x5
    go_wp2_with fail
    refine (specTour_ok _ _ _ ts _ k6.out hm).mono ?_
    rintro e w7 ⟨A10, n10, c10, rfl, o7, b7⟩
    have hn10 : n10 ≤ 100 := by rw [← o7.len]; exact hlt.out
    have z7 := Lib.hid o7
    have y7 := Lib.hid (y6.out.below b7)
    have x7 := Lib.hid (x6.out.below b7)
    have o7' := Lib.hid (o6'.out.below b7)
    have p7 := Lib.hid (p6.out.up b7); have s7 := Lib.hid (s6.out.up b7)
    have k7 := Lib.hid (k6.out.up b7); have uw7 := Lib.hid (uw6.out.trans (b7.mono uw6.out.size)); clear b7 k6 uw6 o7 p6 s6 o6' x6 y6
    go_wp2_with fail
    refine (sameRows_any A6 A0 n0 c6 c0 w7.heap.size _ w7 p7.out s7.out hsh.out (by omega)).mono ?_
    rintro e w8 ⟨rfl, d8, hw8⟩
    have b8 : Below w7.heap.size w7 w8 := by rw [hw8]; exact below_drewN (Below.refl _ _) d8
    have z8 := Lib.hid (z7.out.below b8); have y8 := Lib.hid (y7.out.below b8); have x8 := Lib.hid (x7.out.below b8); have o8 := Lib.hid (o7'.out.below b8)
    have p8 := Lib.hid (p7.out.up b8); have k8 := Lib.hid (k7.out.up b8); have uw8 := Lib.hid (uw7.out.trans (b8.mono uw7.out.size))
    clear b8 hw8 z7 y7 x7 o7' p7 s7 k7 uw7
    go_wp2_with fail
    refine (sameInts_any A7 A8 n7 n8 c7 c8 w8.heap.size _ _ w8 o8.out.ints x8.out.ints (by omega) (by omega)).mono ?_
    rintro e w9 ⟨rfl, d9, hw9⟩
    rw [hqo]
    have b9 : Below w8.heap.size w8 w9 := by rw [hw9]; exact below_drewN (Below.refl _ _) d9
    have z9 := Lib.hid (z8.out.below b9); have y9 := Lib.hid (y8.out.below b9); have o9 := Lib.hid (o8.out.below b9)
    have p9 := Lib.hid (p8.out.up b9); have k9 := Lib.hid (k8.out.up b9); have uw9 := Lib.hid (uw8.out.trans (b9.mono uw8.out.size))
    clear b9 hw9 z8 y8 x8 o8 p8 k8 uw8
    go_wp2_with fail
    refine (sameInts_any A9 A10 n9 n10 c9 c10 w9.heap.size _ _ w9 y9.out.ints z9.out.ints (by omega) (by omega)).mono ?_
    rintro e w10 ⟨rfl, d10, hw10⟩
    rw [hqt]
    have b10 : Below w9.heap.size w9 w10 := by rw [hw10]; exact below_drewN (Below.refl _ _) d10
    have o10 := Lib.hid (o9.out.below b10)
    have p10 := Lib.hid (p9.out.up b10); have k10 := Lib.hid (k9.out.up b10); have uw10 := Lib.hid (uw9.out.trans (b10.mono uw9.out.size))
    clear b10 hw10 z9 y9 o9 p9 k9 uw9
    go_upto_if 103 with fail
    go_cut [7, 9, 11, 13, 15, 17] from 34 (fun _ _ _ _ _ _ wc => Hid (Below w.heap.size w wc))
    case first =>
      cases hg : goodT ts
      · go_wp2_with fail
        go_meet
        case rel => exact uw10
      · have ht := goodT_iff.1 hg
        have hrR := Lib.hid (show spansR ts = spansT ts by unfold spansR; rw [hg]; rfl)
        have hoR := Lib.hid (show ordR ts = orderL (tour ts 0) by unfold ordR; rw [hg]; rfl)
        have hN0 : n0 = n1 := by rw [← hl6'.out, hrR.out, spansT_len]; exact hl1.out
        have hN7 : n7 = n1 := by rw [← hl7.out, hoR.out, orderL_pre, pre_len ht]; exact hl1.out
        have hN9 : n9 = 2 * n1 - 1 := by
          rw [← hl9.out]; unfold tourR; rw [hg]; simp only [if_true]; rw [tourL_len, tour_len ht, hl1.out]
        have hn1p : 1 ≤ n1 := by rw [← hl1.out]; exact ht.pos
        subst hN0
        subst hN7
        rw [hoR.out] at o10
        rw [hrR.out] at p10
        have hN9' : (n9 : Int) = 2 * (n7 : Int) - 1 := by omega
        have hq9 : ((n9 : Int) != 2 * (n7 : Int) - 1) = false := by simp [hN9']
        have hq7 : ((n7 : Int) != (n7 : Int)) = false := by simp
        clear hN9 hN9' hq0 hg hqo hqt
        go_wp2_with fail
        go_loopw [128] (fun i wr => ∃ b : Nat, b ≤ n7 ∧ i = .int .i64 b ∧ Hid (Below w10.heap.size w10 wr)) (fun i _ => n7 - (intOf i).toNat)
        case atStart => exact ⟨0, Nat.zero_le _, rfl, Lib.hid (Below.refl _ _)⟩
        case round =>
          obtain ⟨b, hb, rfl, hbw⟩ := hrel
          by_cases hbn : b < n7
          · have hbl : b < ts.length := by rw [hl1.out]; exact hbn
            obtain ⟨g, off, Ai, ci, e6, _, hc, hi⟩ := (p10.out.up hbw.out).row b hbn
            rw [spansT_row hbl] at hc hi
            obtain ⟨q1, q2⟩ := span_all ht hbl
            obtain ⟨idx, hidx⟩ : ∃ idx, Hid (((spF (tour ts 0)).1 b).1 = idx) := ⟨_, Lib.hid rfl⟩
            obtain ⟨M, hM⟩ : ∃ M, Hid (((spF (tour ts 0)).1 b).2 = M) := ⟨_, Lib.hid rfl⟩
            have hrow : spanRow (tour ts 0) b = [(idx : Int), (M : Int)] := by unfold spanRow; rw [hidx.out, hM.out]
            rw [hrow] at hc hi
            rw [hidx.out] at q1
            rw [hidx.out, hM.out] at q2
            have hidn : idx < n7 := by
              have := (List.getElem?_eq_some_iff.1 q1).1
              rw [pre_len ht, hl1.out] at this
              exact this
            obtain ⟨L, hL⟩ : ∃ L, Hid ((pre ts b).length = L) := ⟨_, Lib.hid rfl⟩
            have hLn := pre_len_le ht hbl
            rw [hL.out] at q2 hLn
            rw [hl1.out] at hLn
            have hM100 : M ≤ 1000 := by omega
            have q1' := Lib.hid q1; have q2' := Lib.hid q2
            have hbR := Lib.hid (show belR ts b = sortI (orderL (tour ts b)) by unfold belR; rw [okK_iff.2 ⟨ht, b, rfl, hbl⟩, Int.toNat_natCast]; rfl)
            have hok := Lib.hid (okK_iff.2 ⟨ht, b, rfl, hbl⟩)
            have hi' := Lib.hid hi
            have hbl' := Lib.hid hbl
            subst e6
            clear hi hrow q1 q2 hbl hq7 hq9
            go_wp2_with fail
            refine (implBelow_any _ _ _ ts (b : Int) _ (k10.out.up hbw.out) hm).mono ?_
            rintro e w11 ⟨A5, n5, c5, rfl, o11, b11⟩
            have hn5 : n5 = L := by rw [← o11.len, hbR.out, sortI_len, orderL_pre, hL.out]
            subst hn5
            rw [hok.out]
            rw [hbR.out] at o11
            have o11' := Lib.hid o11
            have i11 := Lib.hid (hi'.out.below b11)
            have hor := Lib.hid ((o10.out.ints.below hbw.out).below (b11.mono hbw.out.size))
            have uw11 := Lib.hid (hbw.out.trans (b11.mono hbw.out.size))
            clear b11 o11 hc
            obtain ⟨gx, ox, ex, hgx, hx0⟩ := i11.out.2 0 (by simp)
            obtain ⟨gx', ox', ex', _, hx1⟩ := i11.out.2 1 (by simp)
            rw [ex] at ex'
            cases ex'
            obtain ⟨go, oo, eo, hgo, hco⟩ := hor.out.2 idx hidn
            rw [orderL_at q1'.out] at hco
            subst ex
            subst eo
            have hx0' : w11.cell? ⟨gx, ox, none⟩ = some (.int .i64 (idx : Int)) := by simpa using hx0
            have hx1' : w11.cell? ⟨gx, ox + 1, none⟩ = some (.int .i64 (M : Int)) := by simpa using hx1
            have hqb : ((b : Int) != (b : Int)) = false := by simp
            have hqL : ((n5 : Int) != (n5 : Int)) = false := by simp
            have hwr := wrap_sub_nat (a := M) (b := idx) (c := n5) q2'.out hM100
            clear hx0 hx1
            go_wp2_with fail
            go_quiet (fail)
            go_wp2_with fail
            obtain ⟨w12, hw12⟩ : ∃ w12, w11.drewN nq = w12 := ⟨_, rfl⟩
            rw [hw12]
            have b12 : Below w11.heap.size w11 w12 := by rw [← hw12]; exact below_drewN (Below.refl _ _) nq
            have l11 := uw11.out.size
            have hgx2 : gx < w11.heap.size := World.block_lt_of_cell? _ _ hx0'
            have c0 := Lib.hid ((b12.cell (p := ⟨gx, ox, none⟩) hgx2).trans hx0')
            have c1 := Lib.hid ((b12.cell (p := ⟨gx, ox + 1, none⟩) hgx2).trans hx1')
            have o12 := Lib.hid (o11'.out.below b12)
            have hor12 := Lib.hid (hor.out.below (b12.mono l11))
            have uw12 := Lib.hid (uw11.out.trans (b12.mono l11))
            have hgx3 : gx < w12.heap.size := Nat.lt_of_lt_of_le hgx2 b12.size
            have l12 := uw12.out.size
            clear hw12 b12 hx0' hx1' hco hwr hqb hqL o11' hor uw11 i11 hi' hgx hgx2 hgo l11
            go_loopw [170] (fun i wr => ∃ k : Nat, k ≤ n7 ∧ i = .int .i64 k ∧ Hid (Below w12.heap.size w12 wr)) (fun i _ => n7 - (intOf i).toNat)
            case atStart => exact ⟨0, Nat.zero_le _, rfl, Lib.hid (Below.refl _ _)⟩
            case round =>
              obtain ⟨k, hk, rfl, hbq⟩ := hrel
              by_cases hkn : k < n7
              · obtain ⟨go2, oo2, eo2, hgo2, hck0⟩ := hor12.out.2 k hkn
                cases eo2
                have hkp : k < (pre ts 0).length := by rw [pre_len ht, hl1.out]; exact hkn
                obtain ⟨y, hy⟩ : ∃ y, (pre ts 0)[k]? = some y := ⟨_, List.getElem?_eq_getElem hkp⟩
                rw [orderL_at hy] at hck0
                have hck := (hbq.out.cell (p := ⟨go, oo + k, none⟩) (by show go < w12.heap.size; omega)).trans hck0
                have d0 := (hbq.out.cell (p := ⟨gx, ox, none⟩) hgx3).trans c0.out
                have d1 := (hbq.out.cell (p := ⟨gx, ox + 1, none⟩) hgx3).trans c1.out
                have hsp := has_span ht hbl'.out q1'.out hy
                rw [hL.out, ← q2'.out] at hsp
                have oq := Lib.hid (o12.out.below hbq.out)
                have hcon := Lib.hid (fun (q : Nat) => (show Calls Try.prog 49 #[.slice A5 n5 c5, .int .i64 (y : Int)] (wr.drewN q) (fun e w'' => e = .returned (.bool (decide (idx ≤ k) && decide (k < M))) ∧ ∃ m', w'' = wr.drewN m') from Calls.quiet_of (by
                  have := has_any A5 n5 c5 (wr.drewN q).heap.size _ (y : Int) (wr.drewN q) (oq.out.drewN q).ints (by omega)
                  rw [hsp] at this
                  exact this.mono (fun e w' ⟨h1, h2⟩ => ⟨h1, 0, by rw [h2]; rfl⟩))))
                clear hck0 hy hsp hkp hgo2
                by_cases g1 : idx ≤ k
                · have g1' : decide (idx ≤ k) = true := decide_eq_true g1
                  rw [g1', Bool.true_and] at hcon
                  by_cases g2 : k < M
                  · have g2' : decide (k < M) = true := decide_eq_true g2
                    rw [g2'] at hcon
                    go_wp2_with fail
                    go_quiet ((go_at_call 49; exact hcon.out _))
                    go_wp2_with fail
                    go_roundw
                    case rel => exact ⟨k + 1, by omega, by go_num, Lib.hid (below_drewN hbq.out _)⟩
                    case measure => simp [intOf]; omega
                  · have g2' : decide (k < M) = false := decide_eq_false g2
                    rw [g2'] at hcon
                    go_wp2_with fail
                    go_quiet ((go_at_call 49; exact hcon.out _))
                    go_wp2_with fail
                    go_roundw
                    case rel => exact ⟨k + 1, by omega, by go_num, Lib.hid (below_drewN hbq.out _)⟩
                    case measure => simp [intOf]; omega
                · have g1' : decide (idx ≤ k) = false := decide_eq_false g1
                  rw [g1', Bool.false_and] at hcon
                  go_wp2_with fail
                  go_quiet ((go_at_call 49; exact hcon.out _))
                  go_wp2_with fail
                  go_roundw
                  case rel => exact ⟨k + 1, by omega, by go_num, Lib.hid (below_drewN hbq.out _)⟩
                  case measure => simp [intOf]; omega
              · go_wp2_with fail
                go_roundw
                case rel => exact ⟨b + 1, by omega, by go_num, Lib.hid (uw12.out.trans (hbq.out.mono uw12.out.size))⟩
                case measure => simp [intOf]; omega
          · go_wp2_with fail
            go_meet
            case rel => exact Lib.hid (uw10.out.trans (hbw.out.mono uw10.out.size))
    case rest =>
      clear hq0 hqo hqt hsh hm k10 o10 p10 uw10 hlo hlt
      have v0 := hcut
      clear hcut
      go_wp2_with fail
      refine (drawBelow_any A' n' c' wc (h2'.out.below v0.out) (by omega)).mono ?_
      rintro e w5 ⟨B1, m1, d1, ts1, x1, rfl, k5, hm1, b5⟩
      have k5' := Lib.hid k5; have v5 := Lib.hid (v0.out.trans (b5.mono v0.out.size)); clear k5 b5 v0
      have hm1' : m1 ≤ 1048576 := by omega
      have hq1 : (okK ts1 x1 == okK ts1 x1) = true := by simp
      have hqr : eqB (belR ts1 x1) (belR ts1 x1) = true := eqB_yes rfl (fun _ _ => rfl)
      have hqk : eqB (kidsR ts1 x1) (kidsR ts1 x1) = true := eqB_yes rfl (fun _ _ => rfl)
      have hl3 := Lib.hid (belR_len ts1 x1)
      have hl4 := Lib.hid (kidsR_len ts1 x1)
      go_wp2_with fail
      refine (implBelow_any _ _ _ ts1 x1 _ k5'.out hm1').mono ?_
      rintro e w6 ⟨E1, e1, f1, rfl, o6, b6⟩
      have he1 : e1 ≤ 100 := by rw [← o6.len]; exact hl3.out
      have o6' := Lib.hid o6
      have k6 := Lib.hid (k5'.out.up b6); have v6 := Lib.hid (v5.out.trans (b6.mono v5.out.size)); clear b6 k5' v5 o6
      go_wp2_with fail
      refine (specBelow_any _ _ _ ts1 x1 _ k6.out hm1').mono ?_
      rintro e w7 ⟨E2, e2, f2, rfl, o7, b7⟩
      have he2 : e2 ≤ 100 := by rw [← o7.len]; exact hl3.out
      have o7' := Lib.hid o7
      have o6b := Lib.hid (o6'.out.below b7)
      have k7 := Lib.hid (k6.out.up b7); have v7 := Lib.hid (v6.out.trans (b7.mono v6.out.size)); clear b7 k6 v6 o7 o6'
      go_wp2_with fail
      refine (implKids_any _ _ _ ts1 x1 _ k7.out hm1').mono ?_
      rintro e w8 ⟨E3, e3, f3, rfl, o8, b8⟩
      have he3 : e3 ≤ 100 := by rw [← o8.len]; exact hl4.out
      have o8' := Lib.hid o8
      have o6c := Lib.hid (o6b.out.below b8); have o7c := Lib.hid (o7'.out.below b8)
      have k8 := Lib.hid (k7.out.up b8); have v8 := Lib.hid (v7.out.trans (b8.mono v7.out.size)); clear b8 k7 v7 o8 o6b o7'
      go_wp2_with fail
      refine (specKids_any _ _ _ ts1 x1 _ k8.out hm1').mono ?_
      rintro e w9 ⟨E4, e4, f4, rfl, o9, b9⟩
      have he4 : e4 ≤ 100 := by rw [← o9.len]; exact hl4.out
      have o9' := Lib.hid o9
      have o6d := Lib.hid (o6c.out.below b9); have o7d := Lib.hid (o7c.out.below b9); have o8d := Lib.hid (o8'.out.below b9)
      have v9 := Lib.hid (v8.out.trans (b9.mono v8.out.size)); clear b9 k8 v8 o9 o6c o7c o8'
      go_wp2_with fail
      refine (sameInts_any E1 E2 e1 e2 f1 f2 w9.heap.size _ _ w9 o6d.out.ints o7d.out.ints (by omega) (by omega)).mono ?_
      rintro e w10 ⟨rfl, d10, hw10⟩
      rw [hqr]
      have b10 : Below w9.heap.size w9 w10 := by rw [hw10]; exact below_drewN (Below.refl _ _) d10
      have o8e := Lib.hid (o8d.out.below b10); have o9e := Lib.hid (o9'.out.below b10)
      have v10 := Lib.hid (v9.out.trans (b10.mono v9.out.size))
      clear b10 hw10 o6d o7d o8d o9' v9 hqr
      go_wp2_with fail
      refine (sameInts_any E3 E4 e3 e4 f3 f4 w10.heap.size _ _ w10 o8e.out.ints o9e.out.ints (by omega) (by omega)).mono ?_
      rintro e w11 ⟨rfl, d11, hw11⟩
      rw [hqk]
      have v11 := Lib.hid (show Below w.heap.size w w11 by rw [hw11]; exact below_drewN v10.out _)
      clear hw11
      go_wp2_with fail
      go_ret
      exact ⟨rfl, v11.out⟩
  · have hlen' : (1048576 : Int) < (n : Int) + (n' : Int) := by omega
    go_enter Try.func5, Try.ntmps5
    go_wp2_with fail
    go_ret
    exact ⟨rfl, Below.refl _ _⟩
end Go.Proofs.Ytoppgckmcclfpaa
