/- What is proved here: the law FnWeights returns true at every two slices of bytes, and writes nothing that was there. No conditions but that the table of bits holds what its text lays. -/
import Derived.Test.YtpopefopmbmgaaaDoorGreatLaw
import Derived.Test.YtpopefopmbmgaaaDoorLeastSharedLaw
namespace Go.Proofs.YtpopefopmbmgaaaDoor
open Go.RowKit

theorem ofR_len' (mask : Int) : (ofR mask).length ≤ 10 := by
  unfold ofR; split
  · exact ofL_len _ _
  · simp
theorem bitN_10 : bitN 10 = 1024 := rfl
theorem mask_back_nat {m : Nat} (h : m < 1024) : risB (ofL m 10) 0 9 = true ∧ maskL (ofL m 10) = m := by
  have h1 : risB (ofL m 10) 0 9 = true := ofL_ris (n := 10) (by rw [bitN_10]; exact h) (Nat.le_refl _)
  refine ⟨h1, Nat.eq_of_testBit_eq fun i => ?_⟩
  rw [Bool.eq_iff_iff, mask_test h1, ofL_mem]
  constructor
  · rintro ⟨j, _, h3, h4⟩
    have : i = j := by omega
    subst this; exact h3
  · intro hi
    exact ⟨i, bit_lt (n := 10) (by rw [bitN_10]; exact h) hi, hi, rfl⟩
theorem mask_back {mk : Int} (h : okM mk = true) : risB (ofR mk) 0 9 = true ∧ mOf (ofR mk) = mk := by
  obtain ⟨h0, h1⟩ := inB_iff.1 h
  obtain ⟨m, rfl⟩ := Int.eq_ofNat_of_zero_le h0
  have e : ofR (m : Int) = ofL m 10 := by unfold ofR; rw [h, if_pos rfl, Int.toNat_natCast]
  obtain ⟨r1, r2⟩ := mask_back_nat (m := m) (by omega)
  rw [e]
  exact ⟨r1, by unfold mOf; rw [r1, if_pos rfl, r2]⟩

/-- Two groups have together no more than all voters and those that are in both. -/
theorem wt_two {s : List Int} (hb : Bds s) (x y : Nat) : ∀ j, j ≤ s.length → wtL s (ofL x j) + wtL s (ofL y j) ≤ wtL s (ofL (x &&& y) j) + sumL (s.take j) := by
  intro j
  induction j with
  | zero => intro _; simp [ofL_zero, wtL, stakesOf, sumL]
  | succ j ih =>
    intro hj
    have h1 := ih (by omega)
    have h2 := hb j (by omega)
    rw [sumL_step (by omega)]
    have ha : (x &&& y).testBit j = (x.testBit j && y.testBit j) := Nat.testBit_and ..
    cases hx : x.testBit j <;> cases hy : y.testBit j <;> rw [hx, hy] at ha
    · rw [wt_no hx, wt_no hy, wt_no ha]; omega
    · rw [wt_no hx, wt_yes hy, wt_no ha]; omega
    · rw [wt_yes hx, wt_no hy, wt_no ha]; omega
    · rw [wt_yes hx, wt_yes hy, wt_yes ha]; omega
theorem third {s : List Int} (hb : Bds s) {x y : Nat} (hx : gq s x = true) (hy : gq s y = true) : sumL s ≤ 3 * gw s (x &&& y) := by
  have h := wt_two hb x y s.length (Nat.le_refl _)
  rw [List.take_length] at h
  unfold gq gw at *
  simp at hx hy
  omega
theorem least_third {s : List Int} {v : Int} (h : IsLeast s v) (hg : goodB s = true) : sumL s ≤ 3 * v ∧ (0 ≤ v ∧ v ≤ 10000) := by
  have hb := bds_of_good hg
  have hn : s.length ≤ 10 := by have := (goodB_iff.1 hg).1.2; omega
  refine ⟨?_, inP_bd hb hn h.1⟩
  obtain ⟨a, b, _, _, qa, qb, rfl⟩ := h.1
  exact third hb qa qb
theorem ris_mask {ys : List Int} {n : Nat} (hn : n ≤ 10) (h : risB ys 0 ((n : Int) - 1) = true) : maskL ys < bitN n ∧ ofL (maskL ys) 10 = ys := by
  have h9 : risB ys 0 9 = true := ris_wider h (by omega)
  refine ⟨lt_bitN fun i hi => ?_, ?_⟩
  · cases ht : (maskL ys).testBit i
    · rfl
    · have := ris_mem h ((mask_test h9 i).1 ht); omega
  · refine sorted_ext _ _ (ofL_sorted _ _) (ris_sorted h) (fun x => ?_)
    rw [ofL_mem]
    constructor
    · rintro ⟨i, _, h2, rfl⟩; exact (mask_test h9 i).1 h2
    · intro hx
      have := ris_mem h hx
      obtain ⟨i, rfl⟩ := Int.eq_ofNat_of_zero_le this.1
      exact ⟨i, by omega, (mask_test h9 i).2 hx, rfl⟩
/-- A group and the group of a mask: what they have in common is a group; and if both are quorums it has a third of the weight. -/
theorem both_third {s ys : List Int} {r : Nat} (hof : ofB s ys = true) (hr : r < bitN s.length) :
    bothOk ys (ofL r 10) = true ∧ ofB s (bothR ys (ofL r 10)) = true ∧ 0 ≤ wOf s (bothR ys (ofL r 10)) ∧ wOf s (bothR ys (ofL r 10)) ≤ 10000 ∧ (gOf s ys = true → gOf s (ofL r 10) = true → sumL s ≤ 3 * wOf s (bothR ys (ofL r 10))) := by
  have hof' := hof
  unfold ofB at hof'
  rw [Bool.and_eq_true] at hof'
  obtain ⟨hg, hris⟩ := hof'
  have hb := bds_of_good hg
  have hn : s.length ≤ 10 := by have := (goodB_iff.1 hg).1.2; omega
  have h9 : risB ys 0 9 = true := ris_wider hris (by omega)
  have hr9 : risB (ofL r 10) 0 9 = true := ris_wider (ofL_ris hr hn) (by omega)
  obtain ⟨m1, m2⟩ := ris_mask hn hris
  have hr1024 : r < 1024 := Nat.lt_of_lt_of_le hr (bitN_ten hn)
  have hmr := (mask_back_nat hr1024).2
  have hok : bothOk ys (ofL r 10) = true := by unfold bothOk; rw [h9, hr9]; rfl
  have hR : bothR ys (ofL r 10) = ofL (maskL ys &&& r) 10 := by
    unfold bothR; rw [hok, if_pos rfl, ← bothL_masks h9 hr9, hmr]
  have hand : maskL ys &&& r < bitN s.length := Nat.lt_of_le_of_lt Nat.and_le_left m1
  obtain ⟨o1, _⟩ := of_mask hg hand
  have hw : wOf s (ofL (maskL ys &&& r) 10) = gw s (maskL ys &&& r) := by
    unfold wOf; rw [o1, if_pos rfl, ofL_ten hand hn]; rfl
  have hbd := wt_bd (m := maskL ys &&& r) hb (Nat.le_refl s.length)
  rw [hR, hw]
  refine ⟨hok, o1, hbd.1, by unfold gw; omega, fun gy gr => ?_⟩
  refine third hb ?_ ?_
  · rw [← (of_mask hg m1).2, m2]; exact gy
  · rw [← (of_mask hg hr).2]; exact gr

set_option maxHeartbeats 25600000 in
set_option maxRecDepth 100000 in
theorem lawWeights (A A' : Option Addr) (n m c c' : Nat) (w : World) (hcode : BytesIn w A n) (hmore : BytesIn w A' m) (hnn : n ≤ 140737488351232) (hmm : m ≤ 140737488351232) (ht : TabOk w) :
    Calls Tryd.prog 3 #[.slice A n c, .slice A' m c'] w fun e w' => e = .returned (.bool true) ∧ Below w.heap.size w w' := by
  by_cases hs : n + m ≤ 1048576
  · have hn : n ≤ 1048576 := by omega
    have hm : m ≤ 1048576 := by omega
    have hsI : ¬ (1048576 : Int) < (n : Int) + (m : Int) := by omega
    clear hnn hmm hs
    go_enter Tryd.func3, Tryd.ntmps3
    go_wp2_with fail
    refine (drawIsGreat_any A n c w hcode hn).mono ?_
    rintro e w1 ⟨S, ns, cs, xs, G, ng, cg, ys, rfl, oS, oG, hns, hng, b1⟩
    have t1 : TabOk w1 := ht.below b1 ht.pos
    have hq0 : (gOf xs ys != gOf xs ys) = false := by simp
    have hq1 : (ofB xs ys != ofB xs ys) = false := by simp
    have hq2 : (wOf xs ys != wOf xs ys) = false := by simp
    have hq9 : (goodB xs != goodB xs) = false := by simp
    go_wp2_with fail
    refine (implIsGreat_any _ _ _ _ _ _ w1.heap.size xs ys _ oS.ints oG.ints (by omega) (by omega)).mono ?_
    rintro e w2 ⟨rfl, rfl⟩
    go_wp2_with fail
    refine (specIsGreat_any _ _ _ _ _ _ w1.heap.size xs ys _ oS.ints oG.ints (by omega) (by omega)).mono ?_
    rintro e w2 ⟨rfl, rfl⟩
    go_wp2_with fail
    refine (implWeightOf_any _ _ _ _ _ _ w1.heap.size xs ys _ oS.ints oG.ints (by omega) (by omega)).mono ?_
    rintro e w2 ⟨rfl, rfl⟩
    go_wp2_with fail
    refine (specWeightOf_any _ _ _ _ _ _ w1.heap.size xs ys _ oS.ints oG.ints (by omega) (by omega)).mono ?_
    rintro e w2 ⟨rfl, rfl⟩
    go_wp2_with fail
    refine (implGood_any _ _ _ w1.heap.size xs _ oS.ints (by omega)).mono ?_
    rintro e w2 ⟨rfl, rfl⟩
    go_wp2_with fail
    refine (specGood_any _ _ _ w1.heap.size xs _ oS.ints (by omega)).mono ?_
    rintro e w2 ⟨rfl, rfl⟩
    cases hof : ofB xs ys
    · have bx := b1
      clear oS oG
      go_wp2_with fail
      refine (drawLeast_any A' m c' _ (hmore.below bx) hm).mono ?_
      rintro e u1 ⟨T, nt, ct, ts, rfl, oT, hnt, bu1⟩
      have bu1' : Below w.heap.size w u1 := bx.trans (bu1.mono bx.size)
      have tu1 : TabOk u1 := ht.below bu1' ht.pos
      have hq3 : (goodB ts != goodB ts) = false := by simp
      go_wp2_with fail
      refine (implLeast_any _ _ _ ts _ oT.ints (by omega) tu1).mono ?_
      rintro e u2 ⟨v, rfl, g1, g2, bu2⟩
      have g1' := Lib.hid g1; clear g1
      have g2' := Lib.hid g2; clear g2
      have T2 : OwnAt u2 _ T nt ts := oT.below bu2
      go_wp2_with fail
      refine (specLeast_any _ _ _ ts _ T2.ints (by omega)).mono ?_
      rintro e u3 ⟨v', rfl, g3, g4, bu3⟩
      have hv : v' = v := ls_same g3 g4 g1'.out g2'.out
      subst hv
      have hq4 : (v' != v') = false := by simp
      have by_ : Below w.heap.size w u3 := (bu1'.trans (bu2.mono bu1'.size)).trans (bu3.mono (Nat.le_trans bu1'.size bu2.size))
      have T3 : IntsAt u3 u3.heap.size T nt ts := (T2.below bu3).ints
      clear g3 g4 oT bu1 bu1' tu1 bu2 T2 bu3 bx
      cases hgt : goodB ts
      · clear T3
        go_wp2_with fail
        refine (drawOf_any A' m c' _ (hmore.below by_) hm).mono ?_
        rintro e v1 ⟨mk, rfl, bv1⟩
        have bv1' : Below w.heap.size w v1 := by_.trans (bv1.mono by_.size)
        have tv1 : TabOk v1 := ht.below bv1' ht.pos
        have hq5 : (okM mk != okM mk) = false := by simp
        have hq6 : eqB (ofR mk) (ofR mk) = true := eqB_yes rfl (fun _ _ => rfl)
        have hofl := ofR_len' mk
        go_wp2_with fail
        refine (implOf_any _ _ tv1).mono ?_
        rintro e v2 ⟨X, nx, cx, rfl, oX, bv2⟩
        have hnx : nx ≤ 10 := by rw [← oX.len]; exact hofl
        go_wp2_with fail
        refine (specOf_any _ _).mono ?_
        rintro e v3 ⟨Y, ny, cy, rfl, oY, bv3⟩
        have hny : ny ≤ 10 := by rw [← oY.len]; exact hofl
        have bv3' : Below w.heap.size w v3 := (bv1'.trans (bv2.mono bv1'.size)).trans (bv3.mono (Nat.le_trans bv1'.size bv2.size))
        have X3 : OwnAt v3 v1.heap.size X nx (ofR mk) := oX.below bv3
        clear oX bv1 bv1' tv1 bv2 bv3 by_
        go_wp2_with fail
        refine (drawMask_any A' m c' _ (hmore.below bv3') hm).mono ?_
        rintro e v4 ⟨Q, nq, cq, ps, rfl, oQ, hnq, bv4⟩
        have bv4' : Below w.heap.size w v4 := bv3'.trans (bv4.mono bv3'.size)
        have tv4 : TabOk v4 := ht.below bv4' ht.pos
        have X4 : OwnAt v4 v1.heap.size X nx (ofR mk) := X3.below bv4
        have Y4 : IntsAt v4 v4.heap.size Y ny (ofR mk) := (oY.below bv4).ints
        have hq7 : (risB ps 0 9 != risB ps 0 9) = false := by simp
        have hq8 : (mOf ps != mOf ps) = false := by simp
        clear X3 oY bv3' bv4
        go_wp2_with fail
        refine (implMask_any _ _ _ v4.heap.size ps _ oQ.ints (by omega) tv4).mono ?_
        rintro e v5 ⟨rfl, rfl⟩
        go_wp2_with fail
        refine (specMask_any _ _ _ v4.heap.size ps _ oQ.ints (by omega)).mono ?_
        rintro e v5 ⟨rfl, rfl⟩
        clear oQ
        go_wp2_with fail
        refine (sameInts_any X Y nx ny cx cy v4.heap.size _ _ _ X4.ints Y4 (by omega) (by omega)).mono ?_
        rintro e v6 ⟨rfl, dm, rfl⟩
        clear Y4
        cases hok : okM mk
        · go_wp2
          go_ret
          exact ⟨rfl, below_drewN bv4' dm⟩
        · obtain ⟨e1, e2⟩ := mask_back hok
          have X6 : OwnAt (v4.drewN dm) v1.heap.size X nx (ofR mk) := X4.drewN dm
          have t6 : TabOk (v4.drewN dm) := tv4.drewN dm
          have e2' := Lib.hid e2; clear e2
          have hmm2 : (mk == mk) = true := by simp
          clear X4 tv4
          go_wp2_with fail
          refine (implMask_any _ _ _ v4.heap.size (ofR mk) _ X6.ints (by omega) t6).mono ?_
          rintro e v7 ⟨rfl, rfl⟩
          rw [e2'.out]
          clear X6 t6
          go_wp2
          go_ret
          exact ⟨rfl, below_drewN bv4' dm⟩
      · have hbt := Lib.hid (bds_of_good hgt)
        obtain ⟨l1, l2⟩ := least_third (g1'.out hgt) hgt
        obtain ⟨l3, l4⟩ := sumL_all hbt.out
        have l4' : sumL ts ≤ 11000 := by rw [T3.1] at l4; omega
        have hnl : ¬ 3 * v' < sumL ts := by omega
        clear l4
        go_wp2_with fail
        refine (lawSum_any _ _ _ u3.heap.size ts _ T3 (by omega) hbt.out).mono ?_
        rintro e u4 ⟨rfl, rfl⟩
        clear T3
        go_wp2_with fail
        refine (drawOf_any A' m c' _ (hmore.below by_) hm).mono ?_
        rintro e v1 ⟨mk, rfl, bv1⟩
        have bv1' : Below w.heap.size w v1 := by_.trans (bv1.mono by_.size)
        have tv1 : TabOk v1 := ht.below bv1' ht.pos
        have hq5 : (okM mk != okM mk) = false := by simp
        have hq6 : eqB (ofR mk) (ofR mk) = true := eqB_yes rfl (fun _ _ => rfl)
        have hofl := ofR_len' mk
        go_wp2_with fail
        refine (implOf_any _ _ tv1).mono ?_
        rintro e v2 ⟨X, nx, cx, rfl, oX, bv2⟩
        have hnx : nx ≤ 10 := by rw [← oX.len]; exact hofl
        go_wp2_with fail
        refine (specOf_any _ _).mono ?_
        rintro e v3 ⟨Y, ny, cy, rfl, oY, bv3⟩
        have hny : ny ≤ 10 := by rw [← oY.len]; exact hofl
        have bv3' : Below w.heap.size w v3 := (bv1'.trans (bv2.mono bv1'.size)).trans (bv3.mono (Nat.le_trans bv1'.size bv2.size))
        have X3 : OwnAt v3 v1.heap.size X nx (ofR mk) := oX.below bv3
        clear oX bv1 bv1' tv1 bv2 bv3 by_
        go_wp2_with fail
        refine (drawMask_any A' m c' _ (hmore.below bv3') hm).mono ?_
        rintro e v4 ⟨Q, nq, cq, ps, rfl, oQ, hnq, bv4⟩
        have bv4' : Below w.heap.size w v4 := bv3'.trans (bv4.mono bv3'.size)
        have tv4 : TabOk v4 := ht.below bv4' ht.pos
        have X4 : OwnAt v4 v1.heap.size X nx (ofR mk) := X3.below bv4
        have Y4 : IntsAt v4 v4.heap.size Y ny (ofR mk) := (oY.below bv4).ints
        have hq7 : (risB ps 0 9 != risB ps 0 9) = false := by simp
        have hq8 : (mOf ps != mOf ps) = false := by simp
        clear X3 oY bv3' bv4
        go_wp2_with fail
        refine (implMask_any _ _ _ v4.heap.size ps _ oQ.ints (by omega) tv4).mono ?_
        rintro e v5 ⟨rfl, rfl⟩
        go_wp2_with fail
        refine (specMask_any _ _ _ v4.heap.size ps _ oQ.ints (by omega)).mono ?_
        rintro e v5 ⟨rfl, rfl⟩
        clear oQ
        go_wp2_with fail
        refine (sameInts_any X Y nx ny cx cy v4.heap.size _ _ _ X4.ints Y4 (by omega) (by omega)).mono ?_
        rintro e v6 ⟨rfl, dm, rfl⟩
        clear Y4
        cases hok : okM mk
        · go_wp2
          go_ret
          exact ⟨rfl, below_drewN bv4' dm⟩
        · obtain ⟨e1, e2⟩ := mask_back hok
          have X6 : OwnAt (v4.drewN dm) v1.heap.size X nx (ofR mk) := X4.drewN dm
          have t6 : TabOk (v4.drewN dm) := tv4.drewN dm
          have e2' := Lib.hid e2; clear e2
          have hmm2 : (mk == mk) = true := by simp
          clear X4 tv4
          go_wp2_with fail
          refine (implMask_any _ _ _ v4.heap.size (ofR mk) _ X6.ints (by omega) t6).mono ?_
          rintro e v7 ⟨rfl, rfl⟩
          rw [e2'.out]
          clear X6 t6
          go_wp2
          go_ret
          exact ⟨rfl, below_drewN bv4' dm⟩
    · have hl := Lib.hid oS.len
      have hgx : goodB xs = true := by unfold ofB at hof; rw [Bool.and_eq_true] at hof; exact hof.1
      have hbx := Lib.hid (bds_of_good hgx)
      have hns10 : ns ≤ 10 := by have := (goodB_iff.1 hgx).1.2; rw [hl.out] at this; omega
      have hsh := pow_bit ns hns10
      have hbp := bitN_pos ns
      have hbt := bitN_ten hns10
      go_wp2_with fail
      refine (numberOf_any A' m c' _ (hmore.below b1) hm).mono ?_
      rintro e w2 ⟨x, rfl, hx0, hx1, rfl⟩
      have hbpI : (0 : Int) < (bitN ns : Int) := by omega
      have hbnI : ((bitN ns : Int) == 0) = false := by rw [beq_eq_false_iff_ne]; omega
      obtain ⟨r, hr⟩ : ∃ r : Nat, x % (bitN ns : Int) = (r : Int) := ⟨(x % (bitN ns : Int)).toNat, by have := Int.emod_nonneg x (show (bitN ns : Int) ≠ 0 by omega); omega⟩
      have hrlt : r < bitN ns := by have := Int.emod_lt_of_pos x hbpI; omega
      have hr' := Lib.hid hr; clear hr
      have hok := Lib.hid (show okM (r : Int) = true from inB_true (by omega) (by omega))
      have hoR := Lib.hid (show ofR (r : Int) = ofL r 10 by unfold ofR; rw [hok.out, if_pos rfl, Int.toNat_natCast])
      have hrl : r < bitN xs.length := by rw [hl.out]; exact hrlt
      have m1 := (of_mask hgx hrl).1
      obtain ⟨k1, k2, k3, k4, k5⟩ := both_third hof hrl
      have k5' := Lib.hid k5; clear k5
      have hlr10 := ofL_len r 10
      go_wp2_with fail
      rw [hr'.out]
      refine (implOf_any _ _ t1).mono ?_
      rintro e w2 ⟨A5, n5, c5, rfl, o5, b5⟩
      rw [hoR.out] at o5
      rw [hok.out]
      have hn5 : n5 ≤ 10 := by rw [← o5.len]; exact hlr10
      have b05 : Below w.heap.size w w2 := b1.trans (b5.mono b1.size)
      have S5 : OwnAt w2 w.heap.size S ns xs := oS.below b5
      have G5 : OwnAt w2 w.heap.size G ng ys := oG.below b5
      have t5 : TabOk w2 := ht.below b05 ht.pos
      clear oS oG t1 hsh hbpI hbnI b1 b5 hrl
      go_wp2_with fail
      refine (implIsGreat_any _ _ _ _ _ _ w2.heap.size xs (ofL r 10) _ S5.ints o5.ints (by omega) (by omega)).mono ?_
      rintro e w3 ⟨rfl, rfl⟩
      go_wp2_with fail
      refine (implBoth_any _ _ _ _ _ _ ys (ofL r 10) _ G5.ints o5.ints (by omega) (by omega) t5).mono ?_
      rintro e w3 ⟨A6, n6, c6, rfl, o6, b6⟩
      have hn6 : n6 ≤ 12 := by have := bothR_len ys (ofL r 10); rw [o6.len, G5.len] at this; omega
      have bx : Below w.heap.size w w3 := b05.trans (b6.mono b05.size)
      have S6 : OwnAt w3 w.heap.size S ns xs := S5.below b6
      clear o5 G5 S5 t5 b05 b6
      go_wp2_with fail
      refine (implWeightOf_any _ _ _ _ _ _ w3.heap.size xs (bothR ys (ofL r 10)) _ S6.ints o6.ints (by omega) (by omega)).mono ?_
      rintro e w4 ⟨rfl, rfl⟩
      clear o6
      cases hgy : gOf xs ys
      · clear S6
        go_wp2_with fail
        refine (drawLeast_any A' m c' _ (hmore.below bx) hm).mono ?_
        rintro e u1 ⟨T, nt, ct, ts, rfl, oT, hnt, bu1⟩
        have bu1' : Below w.heap.size w u1 := bx.trans (bu1.mono bx.size)
        have tu1 : TabOk u1 := ht.below bu1' ht.pos
        have hq3 : (goodB ts != goodB ts) = false := by simp
        go_wp2_with fail
        refine (implLeast_any _ _ _ ts _ oT.ints (by omega) tu1).mono ?_
        rintro e u2 ⟨v, rfl, g1, g2, bu2⟩
        have g1' := Lib.hid g1; clear g1
        have g2' := Lib.hid g2; clear g2
        have T2 : OwnAt u2 _ T nt ts := oT.below bu2
        go_wp2_with fail
        refine (specLeast_any _ _ _ ts _ T2.ints (by omega)).mono ?_
        rintro e u3 ⟨v', rfl, g3, g4, bu3⟩
        have hv : v' = v := ls_same g3 g4 g1'.out g2'.out
        subst hv
        have hq4 : (v' != v') = false := by simp
        have by_ : Below w.heap.size w u3 := (bu1'.trans (bu2.mono bu1'.size)).trans (bu3.mono (Nat.le_trans bu1'.size bu2.size))
        have T3 : IntsAt u3 u3.heap.size T nt ts := (T2.below bu3).ints
        clear g3 g4 oT bu1 bu1' tu1 bu2 T2 bu3 bx
        cases hgt : goodB ts
        · clear T3
          go_wp2_with fail
          refine (drawOf_any A' m c' _ (hmore.below by_) hm).mono ?_
          rintro e v1 ⟨mk, rfl, bv1⟩
          have bv1' : Below w.heap.size w v1 := by_.trans (bv1.mono by_.size)
          have tv1 : TabOk v1 := ht.below bv1' ht.pos
          have hq5 : (okM mk != okM mk) = false := by simp
          have hq6 : eqB (ofR mk) (ofR mk) = true := eqB_yes rfl (fun _ _ => rfl)
          have hofl := ofR_len' mk
          go_wp2_with fail
          refine (implOf_any _ _ tv1).mono ?_
          rintro e v2 ⟨X, nx, cx, rfl, oX, bv2⟩
          have hnx : nx ≤ 10 := by rw [← oX.len]; exact hofl
          go_wp2_with fail
          refine (specOf_any _ _).mono ?_
          rintro e v3 ⟨Y, ny, cy, rfl, oY, bv3⟩
          have hny : ny ≤ 10 := by rw [← oY.len]; exact hofl
          have bv3' : Below w.heap.size w v3 := (bv1'.trans (bv2.mono bv1'.size)).trans (bv3.mono (Nat.le_trans bv1'.size bv2.size))
          have X3 : OwnAt v3 v1.heap.size X nx (ofR mk) := oX.below bv3
          clear oX bv1 bv1' tv1 bv2 bv3 by_
          go_wp2_with fail
          refine (drawMask_any A' m c' _ (hmore.below bv3') hm).mono ?_
          rintro e v4 ⟨Q, nq, cq, ps, rfl, oQ, hnq, bv4⟩
          have bv4' : Below w.heap.size w v4 := bv3'.trans (bv4.mono bv3'.size)
          have tv4 : TabOk v4 := ht.below bv4' ht.pos
          have X4 : OwnAt v4 v1.heap.size X nx (ofR mk) := X3.below bv4
          have Y4 : IntsAt v4 v4.heap.size Y ny (ofR mk) := (oY.below bv4).ints
          have hq7 : (risB ps 0 9 != risB ps 0 9) = false := by simp
          have hq8 : (mOf ps != mOf ps) = false := by simp
          clear X3 oY bv3' bv4
          go_wp2_with fail
          refine (implMask_any _ _ _ v4.heap.size ps _ oQ.ints (by omega) tv4).mono ?_
          rintro e v5 ⟨rfl, rfl⟩
          go_wp2_with fail
          refine (specMask_any _ _ _ v4.heap.size ps _ oQ.ints (by omega)).mono ?_
          rintro e v5 ⟨rfl, rfl⟩
          clear oQ
          go_wp2_with fail
          refine (sameInts_any X Y nx ny cx cy v4.heap.size _ _ _ X4.ints Y4 (by omega) (by omega)).mono ?_
          rintro e v6 ⟨rfl, dm, rfl⟩
          clear Y4
          cases hok : okM mk
          · go_wp2
            go_ret
            exact ⟨rfl, below_drewN bv4' dm⟩
          · obtain ⟨e1, e2⟩ := mask_back hok
            have X6 : OwnAt (v4.drewN dm) v1.heap.size X nx (ofR mk) := X4.drewN dm
            have t6 : TabOk (v4.drewN dm) := tv4.drewN dm
            have e2' := Lib.hid e2; clear e2
            have hmm2 : (mk == mk) = true := by simp
            clear X4 tv4
            go_wp2_with fail
            refine (implMask_any _ _ _ v4.heap.size (ofR mk) _ X6.ints (by omega) t6).mono ?_
            rintro e v7 ⟨rfl, rfl⟩
            rw [e2'.out]
            clear X6 t6
            go_wp2
            go_ret
            exact ⟨rfl, below_drewN bv4' dm⟩
        · have hbt := Lib.hid (bds_of_good hgt)
          obtain ⟨l1, l2⟩ := least_third (g1'.out hgt) hgt
          obtain ⟨l3, l4⟩ := sumL_all hbt.out
          have l4' : sumL ts ≤ 11000 := by rw [T3.1] at l4; omega
          have hnl : ¬ 3 * v' < sumL ts := by omega
          clear l4
          go_wp2_with fail
          refine (lawSum_any _ _ _ u3.heap.size ts _ T3 (by omega) hbt.out).mono ?_
          rintro e u4 ⟨rfl, rfl⟩
          clear T3
          go_wp2_with fail
          refine (drawOf_any A' m c' _ (hmore.below by_) hm).mono ?_
          rintro e v1 ⟨mk, rfl, bv1⟩
          have bv1' : Below w.heap.size w v1 := by_.trans (bv1.mono by_.size)
          have tv1 : TabOk v1 := ht.below bv1' ht.pos
          have hq5 : (okM mk != okM mk) = false := by simp
          have hq6 : eqB (ofR mk) (ofR mk) = true := eqB_yes rfl (fun _ _ => rfl)
          have hofl := ofR_len' mk
          go_wp2_with fail
          refine (implOf_any _ _ tv1).mono ?_
          rintro e v2 ⟨X, nx, cx, rfl, oX, bv2⟩
          have hnx : nx ≤ 10 := by rw [← oX.len]; exact hofl
          go_wp2_with fail
          refine (specOf_any _ _).mono ?_
          rintro e v3 ⟨Y, ny, cy, rfl, oY, bv3⟩
          have hny : ny ≤ 10 := by rw [← oY.len]; exact hofl
          have bv3' : Below w.heap.size w v3 := (bv1'.trans (bv2.mono bv1'.size)).trans (bv3.mono (Nat.le_trans bv1'.size bv2.size))
          have X3 : OwnAt v3 v1.heap.size X nx (ofR mk) := oX.below bv3
          clear oX bv1 bv1' tv1 bv2 bv3 by_
          go_wp2_with fail
          refine (drawMask_any A' m c' _ (hmore.below bv3') hm).mono ?_
          rintro e v4 ⟨Q, nq, cq, ps, rfl, oQ, hnq, bv4⟩
          have bv4' : Below w.heap.size w v4 := bv3'.trans (bv4.mono bv3'.size)
          have tv4 : TabOk v4 := ht.below bv4' ht.pos
          have X4 : OwnAt v4 v1.heap.size X nx (ofR mk) := X3.below bv4
          have Y4 : IntsAt v4 v4.heap.size Y ny (ofR mk) := (oY.below bv4).ints
          have hq7 : (risB ps 0 9 != risB ps 0 9) = false := by simp
          have hq8 : (mOf ps != mOf ps) = false := by simp
          clear X3 oY bv3' bv4
          go_wp2_with fail
          refine (implMask_any _ _ _ v4.heap.size ps _ oQ.ints (by omega) tv4).mono ?_
          rintro e v5 ⟨rfl, rfl⟩
          go_wp2_with fail
          refine (specMask_any _ _ _ v4.heap.size ps _ oQ.ints (by omega)).mono ?_
          rintro e v5 ⟨rfl, rfl⟩
          clear oQ
          go_wp2_with fail
          refine (sameInts_any X Y nx ny cx cy v4.heap.size _ _ _ X4.ints Y4 (by omega) (by omega)).mono ?_
          rintro e v6 ⟨rfl, dm, rfl⟩
          clear Y4
          cases hok : okM mk
          · go_wp2
            go_ret
            exact ⟨rfl, below_drewN bv4' dm⟩
          · obtain ⟨e1, e2⟩ := mask_back hok
            have X6 : OwnAt (v4.drewN dm) v1.heap.size X nx (ofR mk) := X4.drewN dm
            have t6 : TabOk (v4.drewN dm) := tv4.drewN dm
            have e2' := Lib.hid e2; clear e2
            have hmm2 : (mk == mk) = true := by simp
            clear X4 tv4
            go_wp2_with fail
            refine (implMask_any _ _ _ v4.heap.size (ofR mk) _ X6.ints (by omega) t6).mono ?_
            rintro e v7 ⟨rfl, rfl⟩
            rw [e2'.out]
            clear X6 t6
            go_wp2
            go_ret
            exact ⟨rfl, below_drewN bv4' dm⟩
      · cases hgr : gOf xs (ofL r 10)
        · clear S6
          go_wp2_with fail
          refine (drawLeast_any A' m c' _ (hmore.below bx) hm).mono ?_
          rintro e u1 ⟨T, nt, ct, ts, rfl, oT, hnt, bu1⟩
          have bu1' : Below w.heap.size w u1 := bx.trans (bu1.mono bx.size)
          have tu1 : TabOk u1 := ht.below bu1' ht.pos
          have hq3 : (goodB ts != goodB ts) = false := by simp
          go_wp2_with fail
          refine (implLeast_any _ _ _ ts _ oT.ints (by omega) tu1).mono ?_
          rintro e u2 ⟨v, rfl, g1, g2, bu2⟩
          have g1' := Lib.hid g1; clear g1
          have g2' := Lib.hid g2; clear g2
          have T2 : OwnAt u2 _ T nt ts := oT.below bu2
          go_wp2_with fail
          refine (specLeast_any _ _ _ ts _ T2.ints (by omega)).mono ?_
          rintro e u3 ⟨v', rfl, g3, g4, bu3⟩
          have hv : v' = v := ls_same g3 g4 g1'.out g2'.out
          subst hv
          have hq4 : (v' != v') = false := by simp
          have by_ : Below w.heap.size w u3 := (bu1'.trans (bu2.mono bu1'.size)).trans (bu3.mono (Nat.le_trans bu1'.size bu2.size))
          have T3 : IntsAt u3 u3.heap.size T nt ts := (T2.below bu3).ints
          clear g3 g4 oT bu1 bu1' tu1 bu2 T2 bu3 bx
          cases hgt : goodB ts
          · clear T3
            go_wp2_with fail
            refine (drawOf_any A' m c' _ (hmore.below by_) hm).mono ?_
            rintro e v1 ⟨mk, rfl, bv1⟩
            have bv1' : Below w.heap.size w v1 := by_.trans (bv1.mono by_.size)
            have tv1 : TabOk v1 := ht.below bv1' ht.pos
            have hq5 : (okM mk != okM mk) = false := by simp
            have hq6 : eqB (ofR mk) (ofR mk) = true := eqB_yes rfl (fun _ _ => rfl)
            have hofl := ofR_len' mk
            go_wp2_with fail
            refine (implOf_any _ _ tv1).mono ?_
            rintro e v2 ⟨X, nx, cx, rfl, oX, bv2⟩
            have hnx : nx ≤ 10 := by rw [← oX.len]; exact hofl
            go_wp2_with fail
            refine (specOf_any _ _).mono ?_
            rintro e v3 ⟨Y, ny, cy, rfl, oY, bv3⟩
            have hny : ny ≤ 10 := by rw [← oY.len]; exact hofl
            have bv3' : Below w.heap.size w v3 := (bv1'.trans (bv2.mono bv1'.size)).trans (bv3.mono (Nat.le_trans bv1'.size bv2.size))
            have X3 : OwnAt v3 v1.heap.size X nx (ofR mk) := oX.below bv3
            clear oX bv1 bv1' tv1 bv2 bv3 by_
            go_wp2_with fail
            refine (drawMask_any A' m c' _ (hmore.below bv3') hm).mono ?_
            rintro e v4 ⟨Q, nq, cq, ps, rfl, oQ, hnq, bv4⟩
            have bv4' : Below w.heap.size w v4 := bv3'.trans (bv4.mono bv3'.size)
            have tv4 : TabOk v4 := ht.below bv4' ht.pos
            have X4 : OwnAt v4 v1.heap.size X nx (ofR mk) := X3.below bv4
            have Y4 : IntsAt v4 v4.heap.size Y ny (ofR mk) := (oY.below bv4).ints
            have hq7 : (risB ps 0 9 != risB ps 0 9) = false := by simp
            have hq8 : (mOf ps != mOf ps) = false := by simp
            clear X3 oY bv3' bv4
            go_wp2_with fail
            refine (implMask_any _ _ _ v4.heap.size ps _ oQ.ints (by omega) tv4).mono ?_
            rintro e v5 ⟨rfl, rfl⟩
            go_wp2_with fail
            refine (specMask_any _ _ _ v4.heap.size ps _ oQ.ints (by omega)).mono ?_
            rintro e v5 ⟨rfl, rfl⟩
            clear oQ
            go_wp2_with fail
            refine (sameInts_any X Y nx ny cx cy v4.heap.size _ _ _ X4.ints Y4 (by omega) (by omega)).mono ?_
            rintro e v6 ⟨rfl, dm, rfl⟩
            clear Y4
            cases hok : okM mk
            · go_wp2
              go_ret
              exact ⟨rfl, below_drewN bv4' dm⟩
            · obtain ⟨e1, e2⟩ := mask_back hok
              have X6 : OwnAt (v4.drewN dm) v1.heap.size X nx (ofR mk) := X4.drewN dm
              have t6 : TabOk (v4.drewN dm) := tv4.drewN dm
              have e2' := Lib.hid e2; clear e2
              have hmm2 : (mk == mk) = true := by simp
              clear X4 tv4
              go_wp2_with fail
              refine (implMask_any _ _ _ v4.heap.size (ofR mk) _ X6.ints (by omega) t6).mono ?_
              rintro e v7 ⟨rfl, rfl⟩
              rw [e2'.out]
              clear X6 t6
              go_wp2
              go_ret
              exact ⟨rfl, below_drewN bv4' dm⟩
          · have hbt := Lib.hid (bds_of_good hgt)
            obtain ⟨l1, l2⟩ := least_third (g1'.out hgt) hgt
            obtain ⟨l3, l4⟩ := sumL_all hbt.out
            have l4' : sumL ts ≤ 11000 := by rw [T3.1] at l4; omega
            have hnl : ¬ 3 * v' < sumL ts := by omega
            clear l4
            go_wp2_with fail
            refine (lawSum_any _ _ _ u3.heap.size ts _ T3 (by omega) hbt.out).mono ?_
            rintro e u4 ⟨rfl, rfl⟩
            clear T3
            go_wp2_with fail
            refine (drawOf_any A' m c' _ (hmore.below by_) hm).mono ?_
            rintro e v1 ⟨mk, rfl, bv1⟩
            have bv1' : Below w.heap.size w v1 := by_.trans (bv1.mono by_.size)
            have tv1 : TabOk v1 := ht.below bv1' ht.pos
            have hq5 : (okM mk != okM mk) = false := by simp
            have hq6 : eqB (ofR mk) (ofR mk) = true := eqB_yes rfl (fun _ _ => rfl)
            have hofl := ofR_len' mk
            go_wp2_with fail
            refine (implOf_any _ _ tv1).mono ?_
            rintro e v2 ⟨X, nx, cx, rfl, oX, bv2⟩
            have hnx : nx ≤ 10 := by rw [← oX.len]; exact hofl
            go_wp2_with fail
            refine (specOf_any _ _).mono ?_
            rintro e v3 ⟨Y, ny, cy, rfl, oY, bv3⟩
            have hny : ny ≤ 10 := by rw [← oY.len]; exact hofl
            have bv3' : Below w.heap.size w v3 := (bv1'.trans (bv2.mono bv1'.size)).trans (bv3.mono (Nat.le_trans bv1'.size bv2.size))
            have X3 : OwnAt v3 v1.heap.size X nx (ofR mk) := oX.below bv3
            clear oX bv1 bv1' tv1 bv2 bv3 by_
            go_wp2_with fail
            refine (drawMask_any A' m c' _ (hmore.below bv3') hm).mono ?_
            rintro e v4 ⟨Q, nq, cq, ps, rfl, oQ, hnq, bv4⟩
            have bv4' : Below w.heap.size w v4 := bv3'.trans (bv4.mono bv3'.size)
            have tv4 : TabOk v4 := ht.below bv4' ht.pos
            have X4 : OwnAt v4 v1.heap.size X nx (ofR mk) := X3.below bv4
            have Y4 : IntsAt v4 v4.heap.size Y ny (ofR mk) := (oY.below bv4).ints
            have hq7 : (risB ps 0 9 != risB ps 0 9) = false := by simp
            have hq8 : (mOf ps != mOf ps) = false := by simp
            clear X3 oY bv3' bv4
            go_wp2_with fail
            refine (implMask_any _ _ _ v4.heap.size ps _ oQ.ints (by omega) tv4).mono ?_
            rintro e v5 ⟨rfl, rfl⟩
            go_wp2_with fail
            refine (specMask_any _ _ _ v4.heap.size ps _ oQ.ints (by omega)).mono ?_
            rintro e v5 ⟨rfl, rfl⟩
            clear oQ
            go_wp2_with fail
            refine (sameInts_any X Y nx ny cx cy v4.heap.size _ _ _ X4.ints Y4 (by omega) (by omega)).mono ?_
            rintro e v6 ⟨rfl, dm, rfl⟩
            clear Y4
            cases hok : okM mk
            · go_wp2
              go_ret
              exact ⟨rfl, below_drewN bv4' dm⟩
            · obtain ⟨e1, e2⟩ := mask_back hok
              have X6 : OwnAt (v4.drewN dm) v1.heap.size X nx (ofR mk) := X4.drewN dm
              have t6 : TabOk (v4.drewN dm) := tv4.drewN dm
              have e2' := Lib.hid e2; clear e2
              have hmm2 : (mk == mk) = true := by simp
              clear X4 tv4
              go_wp2_with fail
              refine (implMask_any _ _ _ v4.heap.size (ofR mk) _ X6.ints (by omega) t6).mono ?_
              rintro e v7 ⟨rfl, rfl⟩
              rw [e2'.out]
              clear X6 t6
              go_wp2
              go_ret
              exact ⟨rfl, below_drewN bv4' dm⟩
        · have k6 := k5'.out hgy hgr
          obtain ⟨k7, k8⟩ := sumL_all hbx.out
          have k8' : sumL xs ≤ 12000 := by rw [S6.len] at k8; omega
          have hnl0 : ¬ 3 * wOf xs (bothR ys (ofL r 10)) < sumL xs := by omega
          clear k8
          go_wp2_with fail
          refine (lawSum_any _ _ _ w3.heap.size xs _ S6.ints (by omega) hbx.out).mono ?_
          rintro e w4 ⟨rfl, rfl⟩
          clear S6
          go_wp2_with fail
          refine (drawLeast_any A' m c' _ (hmore.below bx) hm).mono ?_
          rintro e u1 ⟨T, nt, ct, ts, rfl, oT, hnt, bu1⟩
          have bu1' : Below w.heap.size w u1 := bx.trans (bu1.mono bx.size)
          have tu1 : TabOk u1 := ht.below bu1' ht.pos
          have hq3 : (goodB ts != goodB ts) = false := by simp
          go_wp2_with fail
          refine (implLeast_any _ _ _ ts _ oT.ints (by omega) tu1).mono ?_
          rintro e u2 ⟨v, rfl, g1, g2, bu2⟩
          have g1' := Lib.hid g1; clear g1
          have g2' := Lib.hid g2; clear g2
          have T2 : OwnAt u2 _ T nt ts := oT.below bu2
          go_wp2_with fail
          refine (specLeast_any _ _ _ ts _ T2.ints (by omega)).mono ?_
          rintro e u3 ⟨v', rfl, g3, g4, bu3⟩
          have hv : v' = v := ls_same g3 g4 g1'.out g2'.out
          subst hv
          have hq4 : (v' != v') = false := by simp
          have by_ : Below w.heap.size w u3 := (bu1'.trans (bu2.mono bu1'.size)).trans (bu3.mono (Nat.le_trans bu1'.size bu2.size))
          have T3 : IntsAt u3 u3.heap.size T nt ts := (T2.below bu3).ints
          clear g3 g4 oT bu1 bu1' tu1 bu2 T2 bu3 bx
          cases hgt : goodB ts
          · clear T3
            go_wp2_with fail
            refine (drawOf_any A' m c' _ (hmore.below by_) hm).mono ?_
            rintro e v1 ⟨mk, rfl, bv1⟩
            have bv1' : Below w.heap.size w v1 := by_.trans (bv1.mono by_.size)
            have tv1 : TabOk v1 := ht.below bv1' ht.pos
            have hq5 : (okM mk != okM mk) = false := by simp
            have hq6 : eqB (ofR mk) (ofR mk) = true := eqB_yes rfl (fun _ _ => rfl)
            have hofl := ofR_len' mk
            go_wp2_with fail
            refine (implOf_any _ _ tv1).mono ?_
            rintro e v2 ⟨X, nx, cx, rfl, oX, bv2⟩
            have hnx : nx ≤ 10 := by rw [← oX.len]; exact hofl
            go_wp2_with fail
            refine (specOf_any _ _).mono ?_
            rintro e v3 ⟨Y, ny, cy, rfl, oY, bv3⟩
            have hny : ny ≤ 10 := by rw [← oY.len]; exact hofl
            have bv3' : Below w.heap.size w v3 := (bv1'.trans (bv2.mono bv1'.size)).trans (bv3.mono (Nat.le_trans bv1'.size bv2.size))
            have X3 : OwnAt v3 v1.heap.size X nx (ofR mk) := oX.below bv3
            clear oX bv1 bv1' tv1 bv2 bv3 by_
            go_wp2_with fail
            refine (drawMask_any A' m c' _ (hmore.below bv3') hm).mono ?_
            rintro e v4 ⟨Q, nq, cq, ps, rfl, oQ, hnq, bv4⟩
            have bv4' : Below w.heap.size w v4 := bv3'.trans (bv4.mono bv3'.size)
            have tv4 : TabOk v4 := ht.below bv4' ht.pos
            have X4 : OwnAt v4 v1.heap.size X nx (ofR mk) := X3.below bv4
            have Y4 : IntsAt v4 v4.heap.size Y ny (ofR mk) := (oY.below bv4).ints
            have hq7 : (risB ps 0 9 != risB ps 0 9) = false := by simp
            have hq8 : (mOf ps != mOf ps) = false := by simp
            clear X3 oY bv3' bv4
            go_wp2_with fail
            refine (implMask_any _ _ _ v4.heap.size ps _ oQ.ints (by omega) tv4).mono ?_
            rintro e v5 ⟨rfl, rfl⟩
            go_wp2_with fail
            refine (specMask_any _ _ _ v4.heap.size ps _ oQ.ints (by omega)).mono ?_
            rintro e v5 ⟨rfl, rfl⟩
            clear oQ
            go_wp2_with fail
            refine (sameInts_any X Y nx ny cx cy v4.heap.size _ _ _ X4.ints Y4 (by omega) (by omega)).mono ?_
            rintro e v6 ⟨rfl, dm, rfl⟩
            clear Y4
            cases hok : okM mk
            · go_wp2
              go_ret
              exact ⟨rfl, below_drewN bv4' dm⟩
            · obtain ⟨e1, e2⟩ := mask_back hok
              have X6 : OwnAt (v4.drewN dm) v1.heap.size X nx (ofR mk) := X4.drewN dm
              have t6 : TabOk (v4.drewN dm) := tv4.drewN dm
              have e2' := Lib.hid e2; clear e2
              have hmm2 : (mk == mk) = true := by simp
              clear X4 tv4
              go_wp2_with fail
              refine (implMask_any _ _ _ v4.heap.size (ofR mk) _ X6.ints (by omega) t6).mono ?_
              rintro e v7 ⟨rfl, rfl⟩
              rw [e2'.out]
              clear X6 t6
              go_wp2
              go_ret
              exact ⟨rfl, below_drewN bv4' dm⟩
          · have hbt := Lib.hid (bds_of_good hgt)
            obtain ⟨l1, l2⟩ := least_third (g1'.out hgt) hgt
            obtain ⟨l3, l4⟩ := sumL_all hbt.out
            have l4' : sumL ts ≤ 11000 := by rw [T3.1] at l4; omega
            have hnl : ¬ 3 * v' < sumL ts := by omega
            clear l4
            go_wp2_with fail
            refine (lawSum_any _ _ _ u3.heap.size ts _ T3 (by omega) hbt.out).mono ?_
            rintro e u4 ⟨rfl, rfl⟩
            clear T3
            go_wp2_with fail
            refine (drawOf_any A' m c' _ (hmore.below by_) hm).mono ?_
            rintro e v1 ⟨mk, rfl, bv1⟩
            have bv1' : Below w.heap.size w v1 := by_.trans (bv1.mono by_.size)
            have tv1 : TabOk v1 := ht.below bv1' ht.pos
            have hq5 : (okM mk != okM mk) = false := by simp
            have hq6 : eqB (ofR mk) (ofR mk) = true := eqB_yes rfl (fun _ _ => rfl)
            have hofl := ofR_len' mk
            go_wp2_with fail
            refine (implOf_any _ _ tv1).mono ?_
            rintro e v2 ⟨X, nx, cx, rfl, oX, bv2⟩
            have hnx : nx ≤ 10 := by rw [← oX.len]; exact hofl
            go_wp2_with fail
            refine (specOf_any _ _).mono ?_
            rintro e v3 ⟨Y, ny, cy, rfl, oY, bv3⟩
            have hny : ny ≤ 10 := by rw [← oY.len]; exact hofl
            have bv3' : Below w.heap.size w v3 := (bv1'.trans (bv2.mono bv1'.size)).trans (bv3.mono (Nat.le_trans bv1'.size bv2.size))
            have X3 : OwnAt v3 v1.heap.size X nx (ofR mk) := oX.below bv3
            clear oX bv1 bv1' tv1 bv2 bv3 by_
            go_wp2_with fail
            refine (drawMask_any A' m c' _ (hmore.below bv3') hm).mono ?_
            rintro e v4 ⟨Q, nq, cq, ps, rfl, oQ, hnq, bv4⟩
            have bv4' : Below w.heap.size w v4 := bv3'.trans (bv4.mono bv3'.size)
            have tv4 : TabOk v4 := ht.below bv4' ht.pos
            have X4 : OwnAt v4 v1.heap.size X nx (ofR mk) := X3.below bv4
            have Y4 : IntsAt v4 v4.heap.size Y ny (ofR mk) := (oY.below bv4).ints
            have hq7 : (risB ps 0 9 != risB ps 0 9) = false := by simp
            have hq8 : (mOf ps != mOf ps) = false := by simp
            clear X3 oY bv3' bv4
            go_wp2_with fail
            refine (implMask_any _ _ _ v4.heap.size ps _ oQ.ints (by omega) tv4).mono ?_
            rintro e v5 ⟨rfl, rfl⟩
            go_wp2_with fail
            refine (specMask_any _ _ _ v4.heap.size ps _ oQ.ints (by omega)).mono ?_
            rintro e v5 ⟨rfl, rfl⟩
            clear oQ
            go_wp2_with fail
            refine (sameInts_any X Y nx ny cx cy v4.heap.size _ _ _ X4.ints Y4 (by omega) (by omega)).mono ?_
            rintro e v6 ⟨rfl, dm, rfl⟩
            clear Y4
            cases hok : okM mk
            · go_wp2
              go_ret
              exact ⟨rfl, below_drewN bv4' dm⟩
            · obtain ⟨e1, e2⟩ := mask_back hok
              have X6 : OwnAt (v4.drewN dm) v1.heap.size X nx (ofR mk) := X4.drewN dm
              have t6 : TabOk (v4.drewN dm) := tv4.drewN dm
              have e2' := Lib.hid e2; clear e2
              have hmm2 : (mk == mk) = true := by simp
              clear X4 tv4
              go_wp2_with fail
              refine (implMask_any _ _ _ v4.heap.size (ofR mk) _ X6.ints (by omega) t6).mono ?_
              rintro e v7 ⟨rfl, rfl⟩
              rw [e2'.out]
              clear X6 t6
              go_wp2
              go_ret
              exact ⟨rfl, below_drewN bv4' dm⟩
  · have hsI : (1048576 : Int) < (n : Int) + (m : Int) := by omega
    clear hs
    go_enter Tryd.func3, Tryd.ntmps3
    go_wp2
    go_ret
    exact ⟨rfl, Below.refl _ _⟩
end Go.Proofs.YtpopefopmbmgaaaDoor
