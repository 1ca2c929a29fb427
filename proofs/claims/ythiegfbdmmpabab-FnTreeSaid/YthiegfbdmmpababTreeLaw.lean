/- What is proved here: the law FnTree returns true at every two slices of bytes, and writes nothing that was there. No conditions. -/
import Derived.Test.YthiegfbdmmpababTreeFacts
import Derived.Test.YthiegfbdmmpababMeetImpl
import Derived.Test.YthiegfbdmmpababWayImpl
import Derived.Test.YthiegfbdmmpababDrawTrees
import Derived.Deep.Cut
namespace Go.Proofs.Ythiegfbdmmpabab
open Go.RowKit

set_option maxHeartbeats 64000000 in
set_option maxRecDepth 100000 in
theorem lawTree (A A' : Option Addr) (n n' c c' : Nat) (w : World) (h : BytesIn w A n) (h' : BytesIn w A' n') (hr : n ≤ 140737488351232) (hr' : n' ≤ 140737488351232) :
    Calls Try.prog 7 #[.slice A n c, .slice A' n' c'] w fun e w' => e = .returned (.bool true) ∧ Below w.heap.size w w' := by
  by_cases hlen : n + n' ≤ 1048576
  · have hlen' : ¬ (1048576 : Int) < (n : Int) + (n' : Int) := by omega
    have h2' := Lib.hid h'
    clear h'
    go_enter Try.func7, Try.ntmps7
    go_wp2_with fail
    refine (drawMeet_any A n c w h (by omega)).mono ?_
    rintro e w1 ⟨A1, n1, c1, ts, a, b, rfl, k1, hn1, b1⟩
    have k1' := Lib.hid k1; have u1 := Lib.hid b1
    clear k1 b1 h
    have hm : n1 ≤ 1048576 := by omega
    have hq0 : (abvOk ts a b != abvOk ts a b) = false := by simp
    have hq1 : (meetR ts a b != meetR ts a b) = false := by simp
    have hq2 : (abvR ts a b != abvR ts a b) = false := by simp
    have hq3 : (goodT ts != goodT ts) = false := by simp
    go_wp2_with fail
    refine (implMeet_any _ _ _ ts a b _ k1'.out hm).mono ?_
    rintro e w2 ⟨rfl, b2⟩
    have k2 := Lib.hid (k1'.out.up b2); have u2 := Lib.hid (u1.out.trans (b2.mono u1.out.size)); clear b2 k1' u1
    go_wp2_with fail
    refine (specMeet_any _ _ _ ts a b _ k2.out hm).mono ?_
    rintro e w3 ⟨rfl, b3⟩
    have k3 := Lib.hid (k2.out.up b3); have u3 := Lib.hid (u2.out.trans (b3.mono u2.out.size)); clear b3 k2 u2
    go_wp2_with fail
    refine (implAbove_any _ _ _ ts a b _ k3.out hm).mono ?_
    rintro e w4 ⟨rfl, b4⟩
    have k4 := Lib.hid (k3.out.up b4); have u4 := Lib.hid (u3.out.trans (b4.mono u3.out.size)); clear b4 k3 u3
    go_wp2_with fail
    refine (specAbove_any _ _ _ ts a b _ k4.out hm).mono ?_
    rintro e w5 ⟨rfl, b5⟩
    have k5 := Lib.hid (k4.out.up b5); have u5 := Lib.hid (u4.out.trans (b5.mono u4.out.size)); clear b5 k4 u4
    go_wp2_with fail
    refine (implGoodT_any _ _ _ ts _ k5.out hm).mono ?_
    rintro e w6 ⟨rfl, b6⟩
    have k6 := Lib.hid (k5.out.up b6); have u6 := Lib.hid (u5.out.trans (b6.mono u5.out.size)); clear b6 k5 u5
    go_wp2_with fail
    refine (specGoodT_any _ _ _ ts _ k6.out hm).mono ?_
    rintro e w7 ⟨rfl, b7⟩
    have k7 := Lib.hid (k6.out.up b7); have u7 := Lib.hid (u6.out.trans (b7.mono u6.out.size)); clear b7 k6 u6
    go_upto_if 98 with fail
    go_cut [8, 9, 10, 11, 12, 13, 14, 15] from 33 (fun _ _ _ _ _ _ _ _ wc => Hid (Below w.heap.size w wc))
    case first =>
      cases hok : abvOk ts a b
      · go_wp2_with fail
        go_meet
        case rel => exact u7
      · have hok2 := hok
        unfold abvOk at hok2
        rw [Bool.and_eq_true] at hok2
        obtain ⟨ht, x, rfl, hx⟩ := okK_iff.1 hok2.1
        obtain ⟨_, y, rfl, hy⟩ := okK_iff.1 hok2.2
        clear hok2
        have hM := abv_lt ht hx (meet_a ht hy x hx)
        have hmr := Lib.hid (show meetR ts x y = (meet ts x y : Nat) by unfold meetR; rw [hok]; rfl)
        have har := Lib.hid (show abvR ts x y = ((meet ts x y : Nat) == (x : Int)) by unfold abvR; rw [hok, Bool.true_and, Int.toNat_natCast, Int.toNat_natCast]; exact abv_meet ht hx hy)
        have hdx := (abv_iff.1 (meet_a ht hy x hx)).1
        have hdy := (abv_iff.1 (meet_b ht hy x hx)).1
        have hvx := Lib.hid (way_at ht hx (meet_a ht hy x hx))
        have hvy := Lib.hid (way_at ht hy (meet_b ht hy x hx))
        have hpt := Lib.hid (way_parts ht hx hy)
        have hwx := Lib.hid (show wayR ts x = wayV ts x by unfold wayR; rw [okK_of ht hx]; rfl)
        have hwy := Lib.hid (show wayR ts y = wayV ts y by unfold wayR; rw [okK_of ht hy]; rfl)
        have hlx := Lib.hid (wayV_len ht hx)
        have hly := Lib.hid (wayV_len ht hy)
        have hokM := Lib.hid (okK_of ht hM)
        have hokx := Lib.hid (okK_of ht hx)
        have hoky := Lib.hid (okK_of ht hy)
        have hdM := Lib.hid (show depR ts (meet ts x y : Nat) = (dep ts (meet ts x y) : Nat) by unfold depR; rw [okK_of ht hM]; rfl)
        have hdl := dep_le ht hx
        have hdl2 := dep_le ht hy
        have hfew := ht.few
        rw [hmr.out, har.out]
        rw [hmr.out] at hq1
        clear hmr har hq0 hq1 hq2 hq3
        generalize meet ts x y = M at hM hdx hdy hvx hvy hpt hokM hdM ⊢
        generalize dep ts M = d at hdx hdy hvx hvy hpt hdM ⊢
        go_wp2_with fail
        refine (implWay_any _ _ _ ts x _ k7.out hm).mono ?_
        rintro e v1 ⟨A3, n3, c3, rfl, o3, b8⟩
        rw [hokx.out]
        have o3' := Lib.hid o3
        have hn3 : n3 = dep ts x + 1 := by rw [← o3.len, hwx.out, hlx.out]
        have k8 := Lib.hid (k7.out.up b8); have u8 := Lib.hid (u7.out.trans (b8.mono u7.out.size)); clear b8 k7 u7 o3
        have hn3a : d < n3 := by omega
        have hn3b : n3 ≤ 25 := by omega
        have hn3' := Lib.hid hn3; clear hn3
        go_wp2_with fail
        refine (implWay_any _ _ _ ts y _ k8.out hm).mono ?_
        rintro e v2 ⟨A4, n4, c4, rfl, o4, b9⟩
        rw [hoky.out]
        have hn4 : n4 = dep ts y + 1 := by rw [← o4.len, hwy.out, hly.out]
        have o3b := Lib.hid (o3'.out.below b9)
        have o4' := Lib.hid o4
        have k9 := Lib.hid (k8.out.up b9); have u9 := Lib.hid (u8.out.trans (b9.mono u8.out.size)); clear b9 k8 u8 o4 o3'
        have hn4a : d < n4 := by omega
        have hn4b : n4 ≤ 25 := by omega
        have hn4' := Lib.hid hn4; clear hn4
        go_upto_region 13 with fail
        go_cut [20, 21] from 33 (fun s20 s21 wc => s20 = .int .i64 (d : Int) ∧ s21 = .bool true ∧ Hid (Below v2.heap.size v2 wc))
        case first =>
          go_wp2_with fail
          refine (implDepth_any _ _ _ ts (M : Int) _ k9.out hm).mono ?_
          rintro e v3 ⟨rfl, b10⟩
          rw [hdM.out, hokM.out]
          have b10' := Lib.hid b10; clear b10
          go_wp2_with fail
          go_meet
          case rel => exact ⟨rfl, rfl, b10'⟩
        case rest =>
          obtain ⟨rfl, rfl, hbc⟩ := hcut
          have o3c := o3b.out.below hbc.out
          have o4c := o4'.out.below hbc.out
          have u10 := Lib.hid (u9.out.trans (hbc.out.mono u9.out.size))
          clear k9 u9 o3b o4' hbc
          obtain ⟨g3, f3, rfl, _, d3⟩ := o3c.ints.2 d hn3a
          obtain ⟨g4, f4, rfl, _, d4⟩ := o4c.ints.2 d hn4a
          rw [hwx.out, hvx.out] at d3
          rw [hwy.out, hvy.out] at d4
          have q1 : decide ((d : Int) < 0) = false := dec_neg_no d
          have q2 : decide (n3 ≤ d) = false := ndec_le_no hn3a
          have q3 : decide (n4 ≤ d) = false := ndec_le_no hn4a
          have q4 : ((M : Int) != (M : Int)) = false := by simp
          have q5 : (((M : Int) == (x : Int)) != ((M : Int) == (x : Int))) = false := by simp
          obtain ⟨d1, hd1⟩ : ∃ d1, d1 = d + 1 := ⟨_, rfl⟩
          have hwr1 := wrap_up1 hd1 (by omega)
          have hd1' := Lib.hid hd1; clear hd1
          have o3h := Lib.hid o3c; have o4h := Lib.hid o4c
          clear o3c o4c hvx hvy hlx hly hokM hokx hoky hdM hdl hdl2 hfew hdx hdy hM hx hy ht hlen hlen' hr hr' hn1 h2'
          go_wp2_with fail
          simp only [List.append_eq, List.cons_append, List.nil_append]
          refine wp_region_quiet_lit (by kernel_rfl) (by as_aux_lemma => kernel_rfl) ?_
          iterate 51 (go_big_quiet_step (fail))
          by_cases e3 : d1 < n3
          · by_cases e4 : d1 < n4
            · as_aux_lemma =>
              obtain ⟨g3', f3', e3', _, d3'⟩ := o3h.out.ints.2 d1 e3
              obtain ⟨g4', f4', e4', _, d4'⟩ := o4h.out.ints.2 d1 e4
              cases e3'
              cases e4'
              have hp1 := hpt.out (by have := hn3'.out; have := hd1'.out; omega) (by have := hn4'.out; have := hd1'.out; omega)
              rw [← hd1'.out] at hp1
              rw [hwx.out] at d3'
              rw [hwy.out] at d4'
              have q6 : decide (d1 < n3) = true := ndec_lt_yes e3
              have q7 : decide (d1 < n4) = true := ndec_lt_yes e4
              have e3h : (d1 : Int) < (n3 : Int) := by omega
              have e4h : (d1 : Int) < (n4 : Int) := by omega
              clear o3h o4h hpt hwx hwy hn3' hn4' hd1' e3 e4
              repeat (go_big_quiet_step (fail))
              refine wpQuiet_nil ?_
              intro _ hw'
              obtain ⟨nq, rfl⟩ := hw'
              go_wp2_with fail
              go_meet
              case rel => exact Lib.hid (below_drewN u10.out _)
            · as_aux_lemma =>
              have q6 : decide (d1 < n3) = true := ndec_lt_yes e3
              have q7 : decide (d1 < n4) = false := ndec_lt_no e4
              clear o3h o4h hpt hwx hwy hn3' hn4' hd1' e3 e4
              repeat (go_big_quiet_step (fail))
              refine wpQuiet_nil ?_
              intro _ hw'
              obtain ⟨nq, rfl⟩ := hw'
              go_wp2_with fail
              go_meet
              case rel => exact Lib.hid (below_drewN u10.out _)
          · as_aux_lemma =>
            have q6 : decide (d1 < n3) = false := ndec_lt_no e3
            clear o3h o4h hpt hwx hwy hn3' hn4' hd1' e3
            repeat (go_big_quiet_step (fail))
            refine wpQuiet_nil ?_
            intro _ hw'
            obtain ⟨nq, rfl⟩ := hw'
            go_wp2_with fail
            go_meet
            case rel => exact Lib.hid (below_drewN u10.out _)
    case rest =>
     as_aux_lemma =>
      clear k7 u7 hq0 hq1 hq2 hq3 hm
      have u0 := hcut
      go_wp2_with fail
      refine (drawWay_any A' n' c' wc (h2'.out.below u0.out) (by omega)).mono ?_
      rintro e v1 ⟨B1, m1, d1, us, z, rfl, k1, hm1, b1⟩
      have k1' := Lib.hid k1; have u1 := Lib.hid (u0.out.trans (b1.mono u0.out.size))
      clear k1 b1
      have hm : m1 ≤ 1048576 := by omega
      have hl1 := Lib.hid k1'.out.1
      have hq0 : (okK us z != okK us z) = false := by simp
      have hq1 : (depR us z != depR us z) = false := by simp
      have hqr : eqB (wayR us z) (wayR us z) = true := eqB_yes rfl (fun _ _ => rfl)
      have hlen2 := wayR_len us z
      go_wp2_with fail
      refine (implWay_any _ _ _ us z _ k1'.out hm).mono ?_
      rintro e v2 ⟨A3, n3, c3, rfl, o3, b2⟩
      have hn3 : n3 ≤ 100 := by rw [← o3.len]; exact hlen2
      have o3' := Lib.hid o3
      have k2 := Lib.hid (k1'.out.up b2); have u2 := Lib.hid (u1.out.trans (b2.mono u1.out.size)); clear b2 k1' u1 o3
      go_wp2_with fail
      refine (specWay_any _ _ _ us z _ k2.out hm).mono ?_
      rintro e v3 ⟨A4, n4, c4, rfl, o4, b3⟩
      have hn4 : n4 ≤ 100 := by rw [← o4.len]; exact hlen2
      have o3b := Lib.hid (o3'.out.below b3)
      have o4' := Lib.hid o4
      have k3 := Lib.hid (k2.out.up b3); have u3 := Lib.hid (u2.out.trans (b3.mono u2.out.size)); clear b3 k2 u2 o4 o3'
      go_wp2_with fail
      refine (implDepth_any _ _ _ us z _ k3.out hm).mono ?_
      rintro e v4 ⟨rfl, b4⟩
      have o3c := Lib.hid (o3b.out.below b4)
      have o4b := Lib.hid (o4'.out.below b4)
      have k4 := Lib.hid (k3.out.up b4); have u4 := Lib.hid (u3.out.trans (b4.mono u3.out.size)); clear b4 k3 u3 o3b o4'
      go_wp2_with fail
      refine (specDepth_any _ _ _ us z _ k4.out hm).mono ?_
      rintro e v5 ⟨rfl, b5⟩
      have o3d := Lib.hid (o3c.out.below b5)
      have o4c := Lib.hid (o4b.out.below b5)
      have k5 := Lib.hid (k4.out.up b5); have u5 := Lib.hid (u4.out.trans (b5.mono u4.out.size)); clear b5 k4 u4 o3c o4b
      cases hz : okK us z
      · have hw0 : wayR us z = [] := by unfold wayR; rw [hz]; rfl
        have hn30 : n3 = 0 := by rw [← o3d.out.len, hw0]; rfl
        subst hn30
        clear hw0
        rw [hz] at hq0
        go_wp2_with fail
        refine (sameInts_any A3 A4 0 n4 c3 c4 v5.heap.size _ _ v5 o3d.out.ints o4c.out.ints (by omega) (by omega)).mono ?_
        rintro e v6 ⟨rfl, d6, rfl⟩
        rw [hqr]
        go_wp2_with fail
        go_loop [32] (fun i => i = .int .i64 1) (fun _ => 0)
        case atStart => rfl
        case round =>
          obtain rfl := hrel
          go_wp2_with fail
          go_ret
          exact ⟨rfl, below_drewN u5.out _⟩
      · obtain ⟨ht, k, rfl, hk⟩ := okK_iff.1 hz
        have hwk := Lib.hid (show wayR us k = wayV us k by unfold wayR; rw [hz]; rfl)
        have hn3e : n3 = dep us k + 1 := by rw [← o3d.out.len, hwk.out, wayV_len ht hk]
        have hdk := Lib.hid (show depR us k = (dep us k : Nat) by unfold depR; rw [hz]; rfl)
        have hdn : ((dep us k : Int) != (n3 : Int) - 1) = false := by rw [hn3e]; simp
        have hn3h := Lib.hid hn3e; clear hn3e
        rw [hdk.out] at hq1 ⊢
        rw [hz] at hq0
        go_wp2_with fail
        refine (sameInts_any A3 A4 n3 n4 c3 c4 v5.heap.size _ _ v5 o3d.out.ints o4c.out.ints (by omega) (by omega)).mono ?_
        rintro e v6 ⟨rfl, d6, rfl⟩
        rw [hqr]
        go_wp2_with fail
        clear hqr hq0 hq1 hdn
        go_loopw [32] (fun i wr => ∃ j : Nat, 1 ≤ j ∧ j ≤ n3 ∧ i = .int .i64 j ∧ ∃ m, wr = v5.drewN m) (fun i _ => n3 - (intOf i).toNat)
        case atStart => exact ⟨1, by omega, by have := hn3h.out; omega, rfl, _, rfl⟩
        case round =>
          obtain ⟨j, hj1, hj, rfl, m, rfl⟩ := hrel
          by_cases hlt : j < n3
          · obtain ⟨cc, e1, hcl, e2⟩ := way_link ht hk hj1 (by have := hn3h.out; omega)
            obtain ⟨g3, f3, e3, _, d3⟩ := o3d.out.ints.2 j hlt
            obtain ⟨g3', f3', e3', _, d3'⟩ := o3d.out.ints.2 (j - 1) (by omega)
            rw [e3] at e3'
            cases e3'
            subst e3
            obtain ⟨g5, f5, e5, _, hcs⟩ := k5.out.at (by rw [← hl1.out]; omega)
            have hcm : cc < m1 := by rw [← hl1.out]; exact hcl
            have d5 := (hcs cc hcm).1
            subst e5
            rw [hwk.out, e1] at d3
            rw [hwk.out, ← e2] at d3'
            rw [show (us[cc]?.getD (0, 0)).1 = parZ us cc from rfl] at d5
            obtain ⟨j', rfl⟩ : ∃ j', j = j' + 1 := ⟨j - 1, by omega⟩
            have hjc := Lib.hid (show ((j' + 1 : Nat) : Int) - 1 = (j' : Int) by omega)
            rw [Nat.add_sub_cancel] at d3'
            have hne : (parZ us cc != parZ us cc) = false := by simp
            clear e1 e2 hcs
            go_wp2_with fail
            go_quiet (fail)
            go_wp2_with fail
            go_roundw
            case rel => exact ⟨j' + 1 + 1, by omega, by omega, by go_num, _, rfl⟩
            case measure => simp [intOf]; omega
          · go_wp2_with fail
            go_ret
            exact ⟨rfl, below_drewN u5.out _⟩
  · have hlen' : (1048576 : Int) < (n : Int) + (n' : Int) := by omega
    go_enter Try.func7, Try.ntmps7
    go_wp2_with fail
    go_ret
    exact ⟨rfl, Below.refl _ _⟩
end Go.Proofs.Ythiegfbdmmpabab
