/- What is proved here: the law FnLeaps returns true at every two slices of bytes, and writes nothing that was there. No conditions. -/
import Derived.Test.YtoppgckmcclfpaaLeapFacts
import Derived.Test.YtoppgckmcclfpaaSameRows
import Derived.Test.YtoppgckmcclfpaaDrawLeaps
import Derived.Test.YtoppgckmcclfpaaHeads
import Derived.Test.YtoppgckmcclfpaaLeavesSpec
import Derived.Test.YtoppgckmcclfpaaAbove
import Derived.Deep.Cut
namespace Go.Proofs.Ytoppgckmcclfpaa
open Go.RowKit

theorem anc_at (A : Option Addr) (n c : Nat) (ts : List Blk) (b u : Nat) (z : Int) (w : World) (hz : z = u) (h : BlksAt w w.heap.size A n ts) (hn : n ≤ 1048576) (ht : Tree ts) (hb : b < ts.length) (hu : u ≤ dep ts b) :
    Calls Try.prog 32 #[.slice A n c, .int .i64 b, .int .i64 z] w (UpPost w (.tuple #[.int .i64 (anc ts b u : Nat), .bool true])) := by
  subst hz
  have hok : ancOk ts b u = true := by unfold ancOk; rw [okK_iff.2 ⟨ht, b, rfl, hb⟩, Int.toNat_natCast, inB_true (by omega) (by omega)]; rfl
  have := implAnc_any A n c ts b u w h hn
  rw [show ancR ts b u = (anc ts b u : Nat) by unfold ancR; rw [hok]; rfl, hok] at this
  exact this

theorem shl_eq {k : Nat} (h : k < 5) : wrap64 ((2 : Int) ^ k) = ((2 ^ k : Nat) : Int) := by
  have : k = 0 ∨ k = 1 ∨ k = 2 ∨ k = 3 ∨ k = 4 := by omega
  rcases this with rfl | rfl | rfl | rfl | rfl <;> first | decide | (unfold wrap64; simp)
theorem wrap_dn1 {k k' : Nat} (h : k = k' + 1) (hk : k ≤ 100) : IntKind.i64.wrap ((k : Int) - 1) = (k' : Int) := by rw [IntKind.wrap_i64]; omega
theorem wrap_dn2 {k k' : Nat} (h : k = k' + 1) (hk : k ≤ 100) : wrap64 ((k : Int) - 1) = (k' : Int) := by unfold wrap64; omega
theorem head_is {ts : List Blk} (h : Tree ts) {s : Int} (hs : 0 ≤ s) : ∀ k, k < ts.length → (∃ j, j ≤ dep ts k ∧ head ts s k = anc ts k j) ∧ sloZ ts (head ts s k) ≤ s := by
  intro k
  induction k using Nat.strongRecOn with
  | ind k ih =>
    intro hk
    by_cases hl : sloZ ts k ≤ s
    · rw [head_here hl]; exact ⟨⟨0, Nat.zero_le _, rfl⟩, hl⟩
    · obtain ⟨h0, e⟩ := head_up h hs hk (by omega)
      have hp := (h.up hk h0).2
      obtain ⟨⟨j, hj, ej⟩, hsl⟩ := ih _ hp (by omega)
      rw [e]
      refine ⟨⟨1 + j, by rw [dep_step h hk h0]; omega, ?_⟩, hsl⟩
      rw [ej, anc_add]; rfl
theorem head_abv {ts : List Blk} (h : Tree ts) {s : Int} (hs : 0 ≤ s) {k : Nat} (hk : k < ts.length) : abv ts (head ts s k) k = true ∧ head ts s k < ts.length ∧ sloZ ts (head ts s k) ≤ s := by
  obtain ⟨⟨j, hj, e⟩, hsl⟩ := head_is h hs k hk
  refine ⟨?_, by rw [e]; exact anc_lt h hk j, hsl⟩
  have hd := dep_anc h hk j hj
  rw [e, abv_iff]
  exact ⟨by omega, by rw [show dep ts k - dep ts (anc ts k j) = j by omega]⟩
set_option maxHeartbeats 6400000 in
set_option maxRecDepth 100000 in
theorem lawLeaps (A A' : Option Addr) (n n' c c' : Nat) (w : World) (h : BytesIn w A n) (h' : BytesIn w A' n') (hr : n ≤ 140737488351232) (hr' : n' ≤ 140737488351232) :
    Calls Try.prog 4 #[.slice A n c, .slice A' n' c'] w fun e w' => e = .returned (.bool true) ∧ Below w.heap.size w w' := by
  by_cases hlen : n + n' ≤ 1048576
  · have hlen' : ¬ (1048576 : Int) < (n : Int) + (n' : Int) := by omega
    have h2' := Lib.hid h'
    clear h'
    go_enter Try.func4, Try.ntmps4
    go_wp2_with fail
    refine (drawLeaps_any A n c w h (by omega)).mono ?_
    rintro e w1 ⟨A1, n1, c1, ts, rfl, k1, hn1, b1⟩
    have hl1 := Lib.hid k1.1
    have k1' := Lib.hid k1; have uw1 := Lib.hid b1
    clear k1 b1 h
    have hm : n1 ≤ 1048576 := by omega
    have hq0 : (goodT ts != goodT ts) = false := by simp
    have hsh := Lib.hid (leapsR_short ts)
    go_wp2_with fail
    refine (implLeaps_any _ _ _ ts _ k1'.out hm).mono ?_
    rintro e w2 ⟨A6, n6, c6, rfl, hl6, o6, b2⟩
    have hn6 : n6 ≤ 100 := by rw [← hl6]; unfold leapsR; cases hg : goodT ts; simp; have := (goodT_iff.1 hg).few; have := leapsT_len ts; simp; omega
    have hl6' := Lib.hid hl6; have o6' := Lib.hid o6
    have k2 := Lib.hid (k1'.out.up b2); have uw2 := Lib.hid (uw1.out.trans (b2.mono uw1.out.size)); clear b2 k1' uw1 hl6 o6
    go_wp2_with fail
    refine (specLeaps_any _ _ _ ts _ k2.out hm).mono ?_
    rintro e w3 ⟨A0, n0, c0, rfl, o0, b3⟩
    have hn0 : n0 = n6 := by rw [← o0.len]; exact hl6'.out
    subst hn0
    have o0' := Lib.hid o0
    have o7 := Lib.hid ((o6'.out.below b3).at hl6'.out (fun _ _ => rfl))
    have k3 := Lib.hid (k2.out.up b3); have uw3 := Lib.hid (uw2.out.trans (b3.mono uw2.out.size)); clear b3 k2 uw2 o0 o6'
    go_wp2_with fail
    refine (sameRows_any A6 A0 n0 c6 c0 w3.heap.size _ w3 o7.out o0'.out hsh.out (by omega)).mono ?_
    rintro e w4 ⟨rfl, d4, hw4⟩
    have k4 := Lib.hid (show BlksAt w4 w4.heap.size A1 n1 ts by rw [hw4]; exact k3.out)
    have o8 := Lib.hid (show RowsAt w4 w4.heap.size A6 n0 (leapsR ts) by rw [hw4]; exact o7.out.below (below_drewN (Below.refl _ _) d4))
    have uw4 := Lib.hid (show Below w.heap.size w w4 by rw [hw4]; exact below_drewN uw3.out d4)
    clear hw4 k3 uw3 o7 o0' 
    go_upto_if 66 with fail
    go_cut [7, 9] from 39 (fun _ _ wc => Hid (Below w.heap.size w wc))
    case first =>
      cases hg : goodT ts
      · go_wp2_with fail
        go_meet
        case rel => exact uw4
      · have ht := goodT_iff.1 hg
        have hrR := Lib.hid (show leapsR ts = leapsT ts by unfold leapsR; rw [hg]; rfl)
        have hnn := Lib.hid (show ts.length = n0 by rw [← hl6'.out, hrR.out, leapsT_len])
        rw [hg] at hq0
        clear hq0 hg
        go_wp2_with fail
        go_loopw [69] (fun i wr => ∃ b : Nat, b ≤ n0 ∧ i = .int .i64 b ∧ Hid (Below w4.heap.size w4 wr)) (fun i _ => n0 - (intOf i).toNat)
        case atStart => exact ⟨0, Nat.zero_le _, rfl, Lib.hid (Below.refl _ _)⟩
        case round =>
          obtain ⟨b, hb, rfl, hbw⟩ := hrel
          by_cases hlt : b < n0
          · have hbl : b < ts.length := by rw [hnn.out]; exact hlt
            obtain ⟨g, off, Ai, ci, e6, _, hc, hi⟩ := ((o8.out.below hbw.out)).row b hlt
            have hrow := Lib.hid (show rowG (leapsR ts) b = leapsL ts b 5 by rw [hrR.out, leapsT_row hbl])
            rw [hrow.out] at hc hi
            have hat := Lib.hid (fun k hk => leaps_at ht (k := k) hbl hk)
            have hps := leaps_pos ht hbl
            have hL5 := leapsL_len ts b 5
            have hi' := Lib.hid hi
            subst e6
            clear hi
            generalize (leapsL ts b 5).length = L at hc hps hL5 hat hi'
            have hpb : (!(decide (0 < L) == decide (0 < dep ts b))) = false := by rw [hps]; simp
            have hdR := Lib.hid (show depR ts b = (dep ts b : Nat) by unfold depR; rw [okK_iff.2 ⟨ht, b, rfl, hbl⟩]; rfl)
            have hoR := Lib.hid (okK_iff.2 ⟨ht, b, rfl, hbl⟩)
            clear hps
            go_wp2_with fail
            refine (implDepth_any _ _ _ ts (b : Int) _ (k4.out.up hbw.out) hm).mono ?_
            rintro e w5 ⟨rfl, b5⟩
            rw [hdR.out, hoR.out]
            have i5 := Lib.hid (((hi'.out.more hbw.out.size).below b5).more b5.size)
            have uw5 := Lib.hid (hbw.out.trans (b5.mono hbw.out.size))
            clear b5
            go_wp2_with fail
            go_loopw [92] (fun i wq => ∃ k : Nat, k ≤ L ∧ i = .int .i64 k ∧ Hid (Below w5.heap.size w5 wq)) (fun i _ => L - (intOf i).toNat)
            case atStart => exact ⟨0, Nat.zero_le _, rfl, Lib.hid (Below.refl _ _)⟩
            case round =>
              obtain ⟨k, hk, rfl, hbq⟩ := hrel
              by_cases hkl : k < L
              · obtain ⟨hk2, hka⟩ := hat.out k hkl
                obtain ⟨gi, oi, eA, hgi, hca⟩ := i5.out.2 k hkl
                have hca' := (hbq.out.cell (p := ⟨gi, oi + k, none⟩) hgi).trans hca
                rw [hka] at hca'
                have hq4 : ((anc ts b (2 ^ k) : Int) != (anc ts b (2 ^ k) : Int)) = false := by simp
                have hk5 : k < 5 := by omega
                have uq := Lib.hid (uw5.out.trans (hbq.out.mono uw5.out.size))
                subst eA
                clear hca hka
                go_wp2_with fail
                refine (anc_at _ _ _ ts b (2 ^ k) _ _ (shl_eq hk5) (k4.out.up uq.out) hm ht hbl hk2).mono ?_
                rintro e w6 ⟨rfl, b6⟩
                have hsq := hbq.out.size
                have hc6 := (b6.cell (p := ⟨gi, oi + k, none⟩) (by show gi < wr.heap.size; omega)).trans hca'
                have uq6 := Lib.hid (uq.out.trans (b6.mono uq.out.size))
                have bq6 := Lib.hid (hbq.out.trans (b6.mono hbq.out.size))
                have i6 := Lib.hid (i5.out.below bq6.out)
                have o6q := Lib.hid (o8.out.below uq6.out)
                clear b6 hca' hsq
                by_cases hk0 : 0 < k
                · obtain ⟨k', hk'⟩ : ∃ k', k = k' + 1 := ⟨k - 1, by omega⟩
                  have hkl' : k' < L := by omega
                  obtain ⟨gi2, oi2, eA2, _, hcb⟩ := i6.out.2 k' hkl'
                  cases eA2
                  rw [(hat.out k' hkl').2] at hcb
                  obtain ⟨ht1, ht2⟩ := leap_twice ht (k := k') hbl (by rw [← hk']; exact hk2)
                  rw [← hk'] at ht2
                  have hpl := anc_lt ht hbl (2 ^ k')
                  have hpn : anc ts b (2 ^ k') < n0 := by rw [← hnn.out]; exact hpl
                  have hkp := leaps_has ht hpl ht1
                  have hpa := (leaps_at ht hpl hkp).2
                  rw [ht2] at hpa
                  obtain ⟨g7, off7, Ap, cp, e7, _, hcp, hip⟩ := o6q.out.row _ hpn
                  cases e7
                  rw [hrR.out, leapsT_row hpl] at hcp hip
                  obtain ⟨gp, op, eP, _, hcq⟩ := hip.2 k' hkp
                  rw [hpa] at hcq
                  subst eP
                  have w1 := wrap_dn1 hk' (by omega)
                  have w2 := wrap_dn2 hk' (by omega)
                  have q1 : decide (0 < k) = true := decide_eq_true hk0
                  generalize (leapsL ts (anc ts b (2 ^ k')) 5).length = Lp at hcp hkp
                  generalize anc ts b (2 ^ k') = P at hcb hcp hpn
                  generalize anc ts b (2 ^ k) = Q at hc6 hcq hq4 ⊢
                  clear hip hpa ht1 ht2 hpl hk' hk2
                  go_wp2_with fail
                  go_roundw
                  case rel => exact ⟨k + 1, by omega, by go_num, bq6⟩
                  case measure => simp [intOf]; omega
                · have q1 : decide (0 < k) = false := decide_eq_false hk0
                  generalize anc ts b (2 ^ k) = Q at hc6 hq4 ⊢
                  clear hk2
                  go_wp2_with fail
                  go_roundw
                  case rel => exact ⟨k + 1, by omega, by go_num, bq6⟩
                  case measure => simp [intOf]; omega
              · go_wp2_with fail
                go_roundw
                case rel => exact ⟨b + 1, by omega, by go_num, Lib.hid (uw5.out.trans (hbq.out.mono uw5.out.size))⟩
                case measure => simp [intOf]; omega
          · go_wp2_with fail
            go_meet
            case rel => exact Lib.hid (uw4.out.trans (hbw.out.mono uw4.out.size))
    case rest =>
      clear hq0 hsh hm k4 o8 uw4
      have v0 := hcut
      clear hcut
      go_wp2_with fail
      refine (drawAnc_any A' n' c' wc (h2'.out.below v0.out) (by omega)).mono ?_
      rintro e w5 ⟨B1, m1, d1, ts1, x1, y1, rfl, k5, hm1, b5⟩
      have k5' := Lib.hid k5; have v5 := Lib.hid (v0.out.trans (b5.mono v0.out.size)); clear k5 b5 v0
      have hm1' : m1 ≤ 1048576 := by omega
      have hq1 : (ancOk ts1 x1 y1 != ancOk ts1 x1 y1) = false := by simp
      have hq2 : (ancR ts1 x1 y1 != ancR ts1 x1 y1) = false := by simp
      go_wp2_with fail
      refine (implAnc_any _ _ _ ts1 x1 y1 _ k5'.out hm1').mono ?_
      rintro e w6 ⟨rfl, b6⟩
      have k6 := Lib.hid (k5'.out.up b6); have v6 := Lib.hid (v5.out.trans (b6.mono v5.out.size)); clear b6 k5' v5
      go_wp2_with fail
      refine (specAnc_any _ _ _ ts1 x1 y1 _ k6.out hm1').mono ?_
      rintro e w7 ⟨rfl, b7⟩
      have v7 := Lib.hid (v6.out.trans (b7.mono v6.out.size)); clear b7 k6 v6
      go_wp2_with fail
      refine (drawHead_any A' n' c' w7 (h2'.out.below v7.out) (by omega)).mono ?_
      rintro e w8 ⟨B2, m2, d2, ts2, x2, y2, rfl, k8, hm2, b8⟩
      have k8' := Lib.hid k8; have v8 := Lib.hid (v7.out.trans (b8.mono v7.out.size)); clear k8 b8 v7
      have hm2' : m2 ≤ 1048576 := by omega
      have hq3 : (headOk ts2 x2 y2 != headOk ts2 x2 y2) = false := by simp
      have hq4 : (headR ts2 x2 y2 != headR ts2 x2 y2) = false := by simp
      go_wp2_with fail
      refine (implHead_any _ _ _ ts2 x2 y2 _ k8'.out hm2').mono ?_
      rintro e w9 ⟨rfl, b9⟩
      have k9 := Lib.hid (k8'.out.up b9); have v9 := Lib.hid (v8.out.trans (b9.mono v8.out.size)); clear b9 k8' v8
      go_wp2_with fail
      refine (specHead_any _ _ _ ts2 x2 y2 _ k9.out hm2').mono ?_
      rintro e w10 ⟨rfl, b10⟩
      have k10 := Lib.hid (k9.out.up b10); have v10 := Lib.hid (v9.out.trans (b10.mono v9.out.size)); clear b10 k9 v9
      go_wp2_with fail
      refine (drawLeaves_any A' n' c' w10 (h2'.out.below v10.out) (by omega)).mono ?_
      rintro e w11 ⟨B3, m3, d3, ts3, rfl, k11, hm3, b11⟩
      have k11' := Lib.hid k11
      have j11 := Lib.hid (k10.out.up b11)
      have v11 := Lib.hid (v10.out.trans (b11.mono v10.out.size)); clear k11 b11 v10 k10
      have hm3' : m3 ≤ 1048576 := by omega
      have hq5 : (goodT ts3 != goodT ts3) = false := by simp
      have hqr : eqB (leavesR ts3) (leavesR ts3) = true := eqB_yes rfl (fun _ _ => rfl)
      have hl3 := leavesR_len ts3
      go_wp2_with fail
      refine (implLeaves_any _ _ _ ts3 _ k11'.out hm3').mono ?_
      rintro e w12 ⟨A5, n5, c5, rfl, o5, b12⟩
      have hn5 : n5 ≤ 100 := by rw [← o5.len]; omega
      have o5' := Lib.hid o5
      have k12 := Lib.hid (k11'.out.up b12); have j12 := Lib.hid (j11.out.up b12)
      have v12 := Lib.hid (v11.out.trans (b12.mono v11.out.size)); clear b12 k11' j11 v11 o5
      go_wp2_with fail
      refine (specLeaves_any _ _ _ ts3 _ k12.out hm3').mono ?_
      rintro e w13 ⟨A9, n9, c9, rfl, o9, b13⟩
      have hn9 : n9 ≤ 100 := by rw [← o9.len]; omega
      have o5b := Lib.hid (o5'.out.below b13)
      have o9' := Lib.hid o9
      have j13 := Lib.hid (j12.out.up b13)
      have v13 := Lib.hid (v12.out.trans (b13.mono v12.out.size)); clear b13 k12 j12 v12 o5' o9 hl3
      cases hz : headOk ts2 x2 y2
      · rw [hz] at hq3
        go_wp2_with fail
        refine (sameInts_any A5 A9 n5 n9 c5 c9 w13.heap.size _ _ w13 o5b.out.ints o9'.out.ints (by omega) (by omega)).mono ?_
        rintro e w14 ⟨rfl, d14, rfl⟩
        rw [hqr]
        go_wp2_with fail
        go_ret
        exact ⟨rfl, below_drewN v13.out _⟩
      · have hz' := hz
        unfold headOk at hz'
        rw [Bool.and_eq_true, decide_eq_true_iff] at hz'
        obtain ⟨hok, hs⟩ := hz'
        obtain ⟨ht, k, rfl, hk⟩ := okK_iff.1 hok
        obtain ⟨ha1, ha2, ha3⟩ := head_abv ht hs hk
        have hhR := Lib.hid (show headR ts2 k y2 = (head ts2 y2 k : Nat) by unfold headR; rw [hz]; rfl)
        rw [hhR.out] at hq4 ⊢
        have hok2 := Lib.hid (okK_iff.2 ⟨ht, head ts2 y2 k, rfl, ha2⟩)
        generalize head ts2 y2 k = H at ha1 ha2 ha3 hq4 hok2 ⊢
        have haR := Lib.hid (show abvR ts2 H k = true by unfold abvR abvOk; rw [hok, hok2.out, Int.toNat_natCast, Int.toNat_natCast, ha1]; rfl)
        have haO := Lib.hid (show abvOk ts2 H k = true by unfold abvOk; rw [hok, hok2.out]; rfl)
        have ha2' : H < m2 := by rw [← j13.out.1]; exact ha2
        rw [hz] at hq3
        clear hz hok ha1 ha2 hok2 hhR
        go_wp2_with fail
        refine (sameInts_any A5 A9 n5 n9 c5 c9 w13.heap.size _ _ w13 o5b.out.ints o9'.out.ints (by omega) (by omega)).mono ?_
        rintro e w14 ⟨rfl, d14, hw14⟩
        rw [hqr]
        have j14 := Lib.hid (show BlksAt w14 w14.heap.size B2 m2 ts2 by rw [hw14]; exact j13.out)
        have v14 := Lib.hid (show Below w.heap.size w w14 by rw [hw14]; exact below_drewN v13.out _)
        clear hw14 j13 v13 o5b o9' hqr
        go_wp2_with fail
        refine (implAbove_any _ _ _ ts2 H k _ j14.out hm2').mono ?_
        rintro e w15 ⟨rfl, b15⟩
        rw [haR.out, haO.out]
        obtain ⟨g15, f15, rfl, _, hcells⟩ := (j14.out.up b15).at (by omega)
        have hcs := (hcells H ha2').2
        have hss : (ts2[H]?.getD (0, 0)).2 ≤ y2 := ha3
        generalize (ts2[H]?.getD (0, 0)).2 = Z at hcs hss
        have v15 := Lib.hid (v14.out.trans (b15.mono v14.out.size)); clear b15 j14 v14 hcells ha3
        go_wp2_with fail
        go_ret
        exact ⟨rfl, v15.out⟩
  · have hlen' : (1048576 : Int) < (n : Int) + (n' : Int) := by omega
    go_enter Try.func4, Try.ntmps4
    go_wp2_with fail
    go_ret
    exact ⟨rfl, Below.refl _ _⟩
end Go.Proofs.Ytoppgckmcclfpaa
