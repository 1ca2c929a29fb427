/- What is proved here: the law FnTurns returns true at every two slices of bytes, and writes nothing that was there. No conditions. -/
import Derived.Test.YtagppnmokmnofaaDrawClock
namespace Go.Proofs.Ytagppnmokmnofaa
open Go.RowKit
theorem next_pos (s : Int) (h : seedB s = true) : 0 < nextI s := by
  obtain ⟨h1, h2⟩ := inB_iff.1 h
  unfold nextI
  rw [h, if_pos rfl]
  unfold nxt
  omega
theorem lotB_parts {xs : List Int} {n : Int} (h : lotB xs n = true) : goodB xs = true ∧ 0 ≤ n ∧ n < sumL xs := by
  unfold lotB at h
  rw [Bool.and_eq_true, Bool.and_eq_true, decide_eq_true_iff, decide_eq_true_iff] at h
  exact ⟨h.1, h.2.1, h.2.2⟩
theorem lotB_mk {xs : List Int} {n : Int} (h1 : goodB xs = true) (h2 : 0 ≤ n) (h3 : n < sumL xs) : lotB xs n = true := by
  unfold lotB
  rw [h1, decide_eq_true h2, decide_eq_true h3]; rfl
/-- The first slot of a proposer is no later than a slot of his. -/
theorem until_at {xs : List Int} {s : Int} {j : Nat} (h : tgB xs s = true) (hj : j ≤ 100) : untilB xs s (turnI xs s j) = true ∧ ∃ u : Nat, u ≤ j ∧ untilI xs s (turnI xs s j) = (u : Int) ∧ turnI xs s u = turnI xs s j := by
  obtain ⟨hg, _, _⟩ := tgB_parts h
  have hr : 0 ≤ turnI xs s j ∧ turnI xs s j < (xs.length : Int) := prop_range hg (seedN s (j + 1))
  have hw : whoB xs s (turnI xs s j) = true := by
    unfold whoB; rw [h, inB_true hr.1 (by have := hr.2; omega)]; rfl
  cases e : untilF xs s (turnI xs s j) with
  | none =>
    unfold untilF at e
    rw [List.find?_range_eq_none] at e
    have := e j (by omega)
    simp [untilP] at this
  | some u =>
    have hB : untilB xs s (turnI xs s j) = true := by unfold untilB; rw [hw, e]; rfl
    refine ⟨hB, u, ?_, by unfold untilI; rw [hB, e]; rfl, ?_⟩
    · unfold untilF at e
      rw [List.find?_range_eq_some] at e
      rcases Nat.lt_or_ge j u with hlt | hge
      · have := e.2.2 j hlt
        simp [untilP] at this
      · exact hge
    · unfold untilF at e
      rw [List.find?_range_eq_some] at e
      simpa [untilP] using e.1
/-- How many of the numbers below k lie in p..q-1. -/
def cntI (p q k : Int) : Int := if k ≤ p then 0 else if k ≤ q then k - p else q - p
theorem cnt_zero {xs : List Int} (hb : Bds xs) {v : Nat} (hv : v < xs.length) : cntI (sumL (xs.take v)) (sumL (xs.take (v + 1))) ((0 : Nat) : Int) = 0 := by
  have := (sumL_bd hb v (by omega)).1
  unfold cntI; rw [if_pos (by omega)]
theorem cnt_end {xs : List Int} (hb : Bds xs) {v : Nat} (hv : v < xs.length) : cntI (sumL (xs.take v)) (sumL (xs.take (v + 1))) (sumL xs) = xs[v]?.getD 0 := by
  have h1 := sumL_whole hb (j := v + 1) (by omega)
  have h2 := sumL_step hv
  have h3 := hb v hv
  unfold cntI
  split
  · omega
  · split <;> omega
theorem cnt_bd {xs : List Int} (hb : Bds xs) {v : Nat} (hv : v < xs.length) (k : Nat) : 0 ≤ cntI (sumL (xs.take v)) (sumL (xs.take (v + 1))) (k : Int) ∧ cntI (sumL (xs.take v)) (sumL (xs.take (v + 1))) (k : Int) ≤ 1000 := by
  have h2 := sumL_step hv
  have h3 := hb v hv
  unfold cntI
  split
  · omega
  · split <;> omega
theorem lot_turn {xs : List Int} (hg : goodB xs = true) {n : Int} (h0 : 0 ≤ n) (h1 : n < sumL xs) {v : Nat} (hv : v < xs.length) : lotB xs n = true ∧ ((lotI xs n == (v : Int)) = false → cntI (sumL (xs.take v)) (sumL (xs.take (v + 1))) (n + 1) = cntI (sumL (xs.take v)) (sumL (xs.take (v + 1))) n) := by
  have hB := lotB_mk hg h0 h1
  refine ⟨hB, fun h => ?_⟩
  have hI : lotI xs n = lotR xs n := by unfold lotI; rw [hB]; rfl
  have hno : ¬ (sumL (xs.take v) ≤ n ∧ n < sumL (xs.take (v + 1))) := by
    intro hh
    have := (lot_iff hg h0 h1 hv).2 hh
    rw [hI, this] at h
    simp at h
  have h2 := sumL_step hv
  have h3 := (bds_of_good hg) v hv
  unfold cntI
  by_cases e : sumL (xs.take v) ≤ n
  · rw [if_neg (by omega), if_neg (by omega)]
    by_cases e2 : n ≤ sumL (xs.take v)
    · rw [if_pos e2]; omega
    · rw [if_neg e2]
      by_cases e3 : n ≤ sumL (xs.take (v + 1))
      · rw [if_pos e3]; omega
      · rw [if_neg e3]
  · rw [if_pos (by omega), if_pos (by omega)]
theorem lot_turn_yes {xs : List Int} (hg : goodB xs = true) {n : Int} (h0 : 0 ≤ n) (h1 : n < sumL xs) {v : Nat} (hv : v < xs.length) (h : (lotI xs n == (v : Int)) = true) : cntI (sumL (xs.take v)) (sumL (xs.take (v + 1))) (n + 1) = cntI (sumL (xs.take v)) (sumL (xs.take (v + 1))) n + 1 := by
  have hB := lotB_mk hg h0 h1
  have hI : lotI xs n = lotR xs n := by unfold lotI; rw [hB]; rfl
  rw [beq_iff_eq, hI, lot_iff hg h0 h1 hv] at h
  unfold cntI
  rw [if_neg (by omega), if_pos (by omega)]
  by_cases e2 : n ≤ sumL (xs.take v)
  · rw [if_pos e2]; omega
  · rw [if_neg e2, if_pos (by omega)]; omega
set_option maxHeartbeats 12800000 in
set_option maxRecDepth 100000 in
theorem lawTurns (A A' : Option Addr) (n m c c' : Nat) (w : World) (hcode : BytesIn w A n) (hmore : BytesIn w A' m) (hnn : n ≤ 140737488351232) (hmm : m ≤ 140737488351232) :
    Calls Try.prog 3 #[.slice A n c, .slice A' m c'] w fun e w' => e = .returned (.bool true) ∧ Below w.heap.size w w' := by
  by_cases hs : n + m ≤ 1048576
  · have hn : n ≤ 1048576 := by omega
    have hm : m ≤ 1048576 := by omega
    have hsI : ¬ (1048576 : Int) < (n : Int) + (m : Int) := by omega
    clear hnn hmm hs
    go_enter Try.func3, Try.ntmps3
    go_wp2_with fail
    refine (drawTurns_any A n c w hcode hn).mono ?_
    rintro e w1 ⟨S, ns, cs, xs, sd, many, rfl, oS, hns, b1⟩
    clear hsI hcode
    have hlen := turnsR_len xs sd many
    go_wp2_with fail
    refine (implTurns_any S ns cs xs sd many w1 oS.ints (by omega)).mono ?_
    rintro e w2 ⟨L, nl, cl, rfl, oL, b2⟩
    have hnl : nl ≤ 100 := by rw [← oL.len]; exact hlen
    go_wp2_with fail
    refine (specTurns_any S ns cs xs sd many w2 (oS.below b2).ints (by omega)).mono ?_
    rintro e w3 ⟨L', nl', cl', rfl, oL', b3⟩
    have hnl' : nl' ≤ 100 := by rw [← oL'.len]; exact hlen
    have hq1 : (turnB xs sd many != turnB xs sd many) = false := by simp
    have hq2 : eqB (turnsR xs sd many) (turnsR xs sd many) = true := eqB_yes rfl (fun _ _ => rfl)
    go_wp2_with fail
    refine (sameInts_any L L' nl nl' cl cl' w3.heap.size _ _ _ (oL.below b3).ints oL'.ints (by omega) (by omega)).mono ?_
    rintro e w3' ⟨rfl, d, rfl⟩
    have b03 : Below w.heap.size w w3 := (b1.trans (b2.mono b1.size)).trans (b3.mono (Nat.le_trans b1.size b2.size))
    have S3 : OwnAt (w3.drewN d) w.heap.size S ns xs := ((oS.below b2).below b3).drewN d
    have L3 : OwnAt (w3.drewN d) w1.heap.size L nl (turnsR xs sd many) := (oL.below b3).drewN d
    have bx3 : Below w.heap.size w (w3.drewN d) := below_drewN b03 d
    have hm3 : BytesIn (w3.drewN d) A' m := hmore.below bx3
    clear oS oL oL' b1 b2 b3 b03 hmore hnl' hlen
    cases hB : turnB xs sd many
    · rw [hB] at hq1
      clear S3 L3
      go_wp2_with fail
      refine (drawLot_any A' m c' _ hm3 hm).mono ?_
      rintro e u1 ⟨T, nt, ct, ts, x, rfl, oT, hnt, bu⟩
      have bx4 : Below w.heap.size w u1 := bx3.trans (bu.mono bx3.size)
      have hm4 : BytesIn u1 A' m := hm3.below bu
      clear bu hm3 bx3
      go_wp2_with fail
      refine (implLot_any T nt ct _ ts x _ oT.ints (by omega)).mono ?_
      rintro e u1' ⟨rfl, rfl⟩
      go_wp2_with fail
      refine (specLot_any T nt ct _ ts x _ oT.ints (by omega)).mono ?_
      rintro e u1' ⟨rfl, rfl⟩
      have hq5 : (lotB ts x != lotB ts x) = false := by simp
      have hq6 : (lotI ts x != lotI ts x) = false := by simp
      cases hL : lotB ts x
      · rw [hL] at hq5
        clear oT
        go_wp2_with fail
        refine (drawTurn_any A' m c' _ hm4 hm).mono ?_
        rintro e u2 ⟨S2, n2, c2, ys, s2, x2, rfl, o2, hn2, bu2⟩
        have bx5 : Below w.heap.size w u2 := bx4.trans (bu2.mono bx4.size)
        have hm5 : BytesIn u2 A' m := hm4.below bu2
        clear bu2
        go_wp2_with fail
        refine (implTurn_any S2 n2 c2 _ ys s2 x2 _ o2.ints (by omega)).mono ?_
        rintro e u2' ⟨rfl, rfl⟩
        go_wp2_with fail
        refine (specTurn_any S2 n2 c2 ys s2 x2 _ o2.ints (by omega)).mono ?_
        rintro e u3 ⟨rfl, bu3⟩
        have bx6 : Below w.heap.size w u3 := bx5.trans (bu3.mono bx5.size)
        have hm6 : BytesIn u3 A' m := hm5.below bu3
        clear bu3 o2
        go_wp2_with fail
        refine (drawUntil_any A' m c' _ hm6 hm).mono ?_
        rintro e u4 ⟨S3, n3, c3, zs, s3, x3, rfl, o3, hn3, bu4⟩
        have bx7 : Below w.heap.size w u4 := bx6.trans (bu4.mono bx6.size)
        have hm7 : BytesIn u4 A' m := hm6.below bu4
        clear bu4
        go_wp2_with fail
        refine (implUntil_any S3 n3 c3 _ zs s3 x3 _ o3.ints (by omega)).mono ?_
        rintro e u4' ⟨rfl, rfl⟩
        go_wp2_with fail
        refine (specUntil_any S3 n3 c3 zs s3 x3 _ o3.ints (by omega)).mono ?_
        rintro e u5 ⟨rfl, bu5⟩
        have bx8 : Below w.heap.size w u5 := bx7.trans (bu5.mono bx7.size)
        have hm8 : BytesIn u5 A' m := hm7.below bu5
        clear bu5 o3
        go_wp2_with fail
        refine (drawNext_any A' m c' _ hm8 hm).mono ?_
        rintro e u6 ⟨gs, rfl, bu6⟩
        have bx9 : Below w.heap.size w u6 := bx8.trans (bu6.mono bx8.size)
        clear bu6
        go_wp2_with fail
        refine (implNext_any gs _).mono ?_
        rintro e u6' ⟨rfl, rfl⟩
        go_wp2_with fail
        refine (specNext_any gs _).mono ?_
        rintro e u6' ⟨rfl, rfl⟩
        have f1 : (turnB ys s2 x2 == turnB ys s2 x2) = true := by simp
        have f2 : (turnR ys s2 x2 == turnR ys s2 x2) = true := by simp
        have f3 : (untilB zs s3 x3 == untilB zs s3 x3) = true := by simp
        have f4 : (untilI zs s3 x3 == untilI zs s3 x3) = true := by simp
        have f5 : (nextI gs == nextI gs) = true := by simp
        have hnp := next_pos gs
        cases hsd : seedB gs
        · clear hnp
          go_wp2
          go_ret
          exact ⟨rfl, bx9⟩
        · have hnp' : 0 < nextI gs := hnp hsd
          clear hnp
          go_wp2
          go_ret
          exact ⟨rfl, bx9⟩
      · rw [hL] at hq5
        obtain ⟨hg, hx0, hx1⟩ := lotB_parts hL
        obtain ⟨v, hv, hve, hv1, hv2⟩ := lot_spec hg hx0 hx1
        have hI := Lib.hid (show lotI ts x = (v : Int) by unfold lotI; rw [hL, if_pos rfl, hve])
        rw [hI.out] at hq6 ⊢
        have hbd := bds_of_good hg
        have hlT := oT.len
        obtain ⟨p1, p2⟩ := good_sum hg
        clear hL hve hx0 hx1 hv1 hv2 hI
        go_wp2_with fail
        refine (lawSum_any T nt ct _ ts _ oT.ints (by omega) hbd).mono ?_
        rintro e u1' ⟨rfl, rfl⟩
        by_cases h100 : sumL ts ≤ 100
        · obtain ⟨gT, mT, fT, rfl, hmT, hrT, hfT⟩ := oT.own (by omega)
          have hcT := hrT.cell (i := v) (by omega)
          rw [hfT v (by omega)] at hcT
          have hstep := Lib.hid (sumL_step (s := ts) (k := v) hv)
          have hvI : (v : Int) < (nt : Int) := by omega
          have oT' := Lib.hid oT
          have hend := Lib.hid (cnt_end hbd hv)
          have hv' := Lib.hid hv
          have hg' := Lib.hid hg
          have hbd' := Lib.hid hbd
          have hlT' := Lib.hid hlT
          clear hrT hfT oT hv hg hbd hlT
          go_wp2
          go_loop [23, 24] (fun a i => ∃ k : Nat, (k : Int) ≤ sumL ts ∧ i = .int .i64 k ∧ a = .int .i64 (cntI (sumL (ts.take v)) (sumL (ts.take (v + 1))) k)) (fun _ i => (sumL ts).toNat - (intOf i).toNat)
          case atStart => exact ⟨0, by omega, rfl, by rw [cnt_zero hbd'.out hv'.out]⟩
          case round =>
            obtain ⟨k, hk, rfl, rfl⟩ := hrel
            obtain ⟨q1, q2⟩ := cnt_bd hbd'.out hv'.out k
            by_cases hlt : (k : Int) < sumL ts
            · obtain ⟨t1, t2⟩ := lot_turn hg'.out (n := (k : Int)) (by omega) hlt hv'.out
              cases hx : (lotI ts (k : Int) == (v : Int))
              · have hst := Lib.hid (t2 hx)
                clear t2
                go_wp2_with (first
                  | (go_at_call 19; refine (lawSum_any _ nt ct _ ts _ oT'.out.ints (by omega) hbd'.out).mono ?_; rintro e w' ⟨rfl, rfl⟩)
                  | (go_at_call 17; refine (implLot_any _ nt ct _ ts _ _ oT'.out.ints (by omega)).mono ?_; rintro e w' ⟨rfl, rfl⟩))
                go_round
                case rel => exact ⟨k + 1, by omega, by go_num, by rw [show ((k + 1 : Nat) : Int) = (k : Int) + 1 by omega, hst.out]⟩
                case measure => simp [intOf]; omega
              · have hst := Lib.hid (lot_turn_yes hg'.out (n := (k : Int)) (by omega) hlt hv'.out hx)
                clear t2
                go_wp2_with (first
                  | (go_at_call 19; refine (lawSum_any _ nt ct _ ts _ oT'.out.ints (by omega) hbd'.out).mono ?_; rintro e w' ⟨rfl, rfl⟩)
                  | (go_at_call 17; refine (implLot_any _ nt ct _ ts _ _ oT'.out.ints (by omega)).mono ?_; rintro e w' ⟨rfl, rfl⟩))
                go_round
                case rel => exact ⟨k + 1, by omega, by go_num, by rw [show ((k + 1 : Nat) : Int) = (k : Int) + 1 by omega, hst.out]⟩
                case measure => simp [intOf]; omega
            · have hke := Lib.hid (show (k : Int) = sumL ts by omega)
              have hdone : (cntI (sumL (ts.take v)) (sumL (ts.take (v + 1))) (k : Int) != ts[v]?.getD 0) = false := by rw [hke.out, hend.out]; simp
              go_wp2_with (first
                | (go_at_call 19; refine (lawSum_any _ nt ct _ ts _ oT'.out.ints (by omega) hbd'.out).mono ?_; rintro e w' ⟨rfl, rfl⟩))
              clear hcT hdone
              refine (drawTurn_any A' m c' _ hm4 hm).mono ?_
              rintro e u2 ⟨S2, n2, c2, ys, s2, x2, rfl, o2, hn2, bu2⟩
              have bx5 : Below w.heap.size w u2 := bx4.trans (bu2.mono bx4.size)
              have hm5 : BytesIn u2 A' m := hm4.below bu2
              clear bu2
              go_wp2_with fail
              refine (implTurn_any S2 n2 c2 _ ys s2 x2 _ o2.ints (by omega)).mono ?_
              rintro e u2' ⟨rfl, rfl⟩
              go_wp2_with fail
              refine (specTurn_any S2 n2 c2 ys s2 x2 _ o2.ints (by omega)).mono ?_
              rintro e u3 ⟨rfl, bu3⟩
              have bx6 : Below w.heap.size w u3 := bx5.trans (bu3.mono bx5.size)
              have hm6 : BytesIn u3 A' m := hm5.below bu3
              clear bu3 o2
              go_wp2_with fail
              refine (drawUntil_any A' m c' _ hm6 hm).mono ?_
              rintro e u4 ⟨S3, n3, c3, zs, s3, x3, rfl, o3, hn3, bu4⟩
              have bx7 : Below w.heap.size w u4 := bx6.trans (bu4.mono bx6.size)
              have hm7 : BytesIn u4 A' m := hm6.below bu4
              clear bu4
              go_wp2_with fail
              refine (implUntil_any S3 n3 c3 _ zs s3 x3 _ o3.ints (by omega)).mono ?_
              rintro e u4' ⟨rfl, rfl⟩
              go_wp2_with fail
              refine (specUntil_any S3 n3 c3 zs s3 x3 _ o3.ints (by omega)).mono ?_
              rintro e u5 ⟨rfl, bu5⟩
              have bx8 : Below w.heap.size w u5 := bx7.trans (bu5.mono bx7.size)
              have hm8 : BytesIn u5 A' m := hm7.below bu5
              clear bu5 o3
              go_wp2_with fail
              refine (drawNext_any A' m c' _ hm8 hm).mono ?_
              rintro e u6 ⟨gs, rfl, bu6⟩
              have bx9 : Below w.heap.size w u6 := bx8.trans (bu6.mono bx8.size)
              clear bu6
              go_wp2_with fail
              refine (implNext_any gs _).mono ?_
              rintro e u6' ⟨rfl, rfl⟩
              go_wp2_with fail
              refine (specNext_any gs _).mono ?_
              rintro e u6' ⟨rfl, rfl⟩
              have f1 : (turnB ys s2 x2 == turnB ys s2 x2) = true := by simp
              have f2 : (turnR ys s2 x2 == turnR ys s2 x2) = true := by simp
              have f3 : (untilB zs s3 x3 == untilB zs s3 x3) = true := by simp
              have f4 : (untilI zs s3 x3 == untilI zs s3 x3) = true := by simp
              have f5 : (nextI gs == nextI gs) = true := by simp
              have hnp := next_pos gs
              cases hsd : seedB gs
              · clear hnp
                go_wp2
                go_ret
                exact ⟨rfl, bx9⟩
              · have hnp' : 0 < nextI gs := hnp hsd
                clear hnp
                go_wp2
                go_ret
                exact ⟨rfl, bx9⟩
        · clear hg hbd oT hlT
          go_wp2_with fail
          refine (drawTurn_any A' m c' _ hm4 hm).mono ?_
          rintro e u2 ⟨S2, n2, c2, ys, s2, x2, rfl, o2, hn2, bu2⟩
          have bx5 : Below w.heap.size w u2 := bx4.trans (bu2.mono bx4.size)
          have hm5 : BytesIn u2 A' m := hm4.below bu2
          clear bu2
          go_wp2_with fail
          refine (implTurn_any S2 n2 c2 _ ys s2 x2 _ o2.ints (by omega)).mono ?_
          rintro e u2' ⟨rfl, rfl⟩
          go_wp2_with fail
          refine (specTurn_any S2 n2 c2 ys s2 x2 _ o2.ints (by omega)).mono ?_
          rintro e u3 ⟨rfl, bu3⟩
          have bx6 : Below w.heap.size w u3 := bx5.trans (bu3.mono bx5.size)
          have hm6 : BytesIn u3 A' m := hm5.below bu3
          clear bu3 o2
          go_wp2_with fail
          refine (drawUntil_any A' m c' _ hm6 hm).mono ?_
          rintro e u4 ⟨S3, n3, c3, zs, s3, x3, rfl, o3, hn3, bu4⟩
          have bx7 : Below w.heap.size w u4 := bx6.trans (bu4.mono bx6.size)
          have hm7 : BytesIn u4 A' m := hm6.below bu4
          clear bu4
          go_wp2_with fail
          refine (implUntil_any S3 n3 c3 _ zs s3 x3 _ o3.ints (by omega)).mono ?_
          rintro e u4' ⟨rfl, rfl⟩
          go_wp2_with fail
          refine (specUntil_any S3 n3 c3 zs s3 x3 _ o3.ints (by omega)).mono ?_
          rintro e u5 ⟨rfl, bu5⟩
          have bx8 : Below w.heap.size w u5 := bx7.trans (bu5.mono bx7.size)
          have hm8 : BytesIn u5 A' m := hm7.below bu5
          clear bu5 o3
          go_wp2_with fail
          refine (drawNext_any A' m c' _ hm8 hm).mono ?_
          rintro e u6 ⟨gs, rfl, bu6⟩
          have bx9 : Below w.heap.size w u6 := bx8.trans (bu6.mono bx8.size)
          clear bu6
          go_wp2_with fail
          refine (implNext_any gs _).mono ?_
          rintro e u6' ⟨rfl, rfl⟩
          go_wp2_with fail
          refine (specNext_any gs _).mono ?_
          rintro e u6' ⟨rfl, rfl⟩
          have f1 : (turnB ys s2 x2 == turnB ys s2 x2) = true := by simp
          have f2 : (turnR ys s2 x2 == turnR ys s2 x2) = true := by simp
          have f3 : (untilB zs s3 x3 == untilB zs s3 x3) = true := by simp
          have f4 : (untilI zs s3 x3 == untilI zs s3 x3) = true := by simp
          have f5 : (nextI gs == nextI gs) = true := by simp
          have hnp := next_pos gs
          cases hsd : seedB gs
          · clear hnp
            go_wp2
            go_ret
            exact ⟨rfl, bx9⟩
          · have hnp' : 0 < nextI gs := hnp hsd
            clear hnp
            go_wp2
            go_ret
            exact ⟨rfl, bx9⟩
    · rw [hB] at hq1
      by_cases hp : 0 < many
      · obtain ⟨hg, ⟨hs1, hs2⟩, _, hm100⟩ := turnB_parts hB
        have htg : tgB xs sd = true := by unfold turnB at hB; rw [Bool.and_eq_true] at hB; exact hB.1
        have hR := Lib.hid (show turnsR xs sd many = turnsL xs sd many.toNat by unfold turnsR; rw [hB]; rfl)
        have hnlA : (nl : Int) ≤ many := by have : nl = many.toNat := by rw [← L3.len, hR.out, turnsL_len]
                                            omega
        have hnlB : many ≤ (nl : Int) := by have : nl = many.toNat := by rw [← L3.len, hR.out, turnsL_len]
                                            omega
        clear hB
        go_wp2_with fail
        refine (numberOf_any A' m c' _ hm3 hm).mono ?_
        rintro e w4 ⟨x, rfl, x0, x1, rfl⟩
        have m1 := Int.emod_nonneg x (show many ≠ 0 by omega)
        have m2 := Int.emod_lt_of_pos x hp
        obtain ⟨j, hj⟩ := Int.eq_ofNat_of_zero_le m1
        have hjn : j < nl := by omega
        have hj100 : j ≤ 100 := by omega
        have htB := Lib.hid (turnB_yes (xs := xs) (s := sd) (slot := (j : Int)) hg (inB_true hs1 hs2) (by omega) (by omega))
        have htR := Lib.hid (show turnR xs sd (j : Int) = turnI xs sd j by unfold turnR; rw [htB.out]; rfl)
        obtain ⟨hu1, u, hu2, hu3, hu4⟩ := until_at htg hj100
        have hu1' := Lib.hid hu1
        have hu3' := Lib.hid hu3
        obtain ⟨gL, mL, fL, rfl, hmL, hrL, hfL⟩ := L3.own (by omega)
        have hcj := hrL.cell (i := j) (by omega)
        rw [hfL j hjn, hR.out, turnsL_get (by omega)] at hcj
        have hcu := hrL.cell (i := u) (by omega)
        rw [hfL u (by omega), hR.out, turnsL_get (by omega), hu4] at hcu
        have hq3 : (turnI xs sd j != turnI xs sd j) = false := by simp
        have hj' := Lib.hid hj
        have S3' := Lib.hid S3
        clear hu1 hu3 hu4 hrL hfL L3 S3 hj hg htg
        go_wp2_with fail
        rw [hj'.out]
        refine (implTurn_any S ns cs _ xs sd _ _ S3'.out.ints (by omega)).mono ?_
        rintro e w5 ⟨rfl, rfl⟩
        rw [htR.out, htB.out]
        go_wp2_with fail
        refine (implUntil_any S ns cs _ xs sd _ _ S3'.out.ints (by omega)).mono ?_
        rintro e w5 ⟨rfl, rfl⟩
        rw [hu3'.out, hu1'.out]
        clear m1 m2 hp x0 x1 hm100
        have hju : ¬ (j : Int) < (u : Int) := by omega
        have hjI : (j : Int) < (nl : Int) := by omega
        have huI : (u : Int) < (nl : Int) := by omega
        go_wp2_with fail
        clear hcj hcu
        refine (drawLot_any A' m c' _ hm3 hm).mono ?_
        rintro e u1 ⟨T, nt, ct, ts, x, rfl, oT, hnt, bu⟩
        have bx4 : Below w.heap.size w u1 := bx3.trans (bu.mono bx3.size)
        have hm4 : BytesIn u1 A' m := hm3.below bu
        clear bu hm3 bx3
        go_wp2_with fail
        refine (implLot_any T nt ct _ ts x _ oT.ints (by omega)).mono ?_
        rintro e u1' ⟨rfl, rfl⟩
        go_wp2_with fail
        refine (specLot_any T nt ct _ ts x _ oT.ints (by omega)).mono ?_
        rintro e u1' ⟨rfl, rfl⟩
        have hq5 : (lotB ts x != lotB ts x) = false := by simp
        have hq6 : (lotI ts x != lotI ts x) = false := by simp
        cases hL : lotB ts x
        · rw [hL] at hq5
          clear oT
          go_wp2_with fail
          refine (drawTurn_any A' m c' _ hm4 hm).mono ?_
          rintro e u2 ⟨S2, n2, c2, ys, s2, x2, rfl, o2, hn2, bu2⟩
          have bx5 : Below w.heap.size w u2 := bx4.trans (bu2.mono bx4.size)
          have hm5 : BytesIn u2 A' m := hm4.below bu2
          clear bu2
          go_wp2_with fail
          refine (implTurn_any S2 n2 c2 _ ys s2 x2 _ o2.ints (by omega)).mono ?_
          rintro e u2' ⟨rfl, rfl⟩
          go_wp2_with fail
          refine (specTurn_any S2 n2 c2 ys s2 x2 _ o2.ints (by omega)).mono ?_
          rintro e u3 ⟨rfl, bu3⟩
          have bx6 : Below w.heap.size w u3 := bx5.trans (bu3.mono bx5.size)
          have hm6 : BytesIn u3 A' m := hm5.below bu3
          clear bu3 o2
          go_wp2_with fail
          refine (drawUntil_any A' m c' _ hm6 hm).mono ?_
          rintro e u4 ⟨S3, n3, c3, zs, s3, x3, rfl, o3, hn3, bu4⟩
          have bx7 : Below w.heap.size w u4 := bx6.trans (bu4.mono bx6.size)
          have hm7 : BytesIn u4 A' m := hm6.below bu4
          clear bu4
          go_wp2_with fail
          refine (implUntil_any S3 n3 c3 _ zs s3 x3 _ o3.ints (by omega)).mono ?_
          rintro e u4' ⟨rfl, rfl⟩
          go_wp2_with fail
          refine (specUntil_any S3 n3 c3 zs s3 x3 _ o3.ints (by omega)).mono ?_
          rintro e u5 ⟨rfl, bu5⟩
          have bx8 : Below w.heap.size w u5 := bx7.trans (bu5.mono bx7.size)
          have hm8 : BytesIn u5 A' m := hm7.below bu5
          clear bu5 o3
          go_wp2_with fail
          refine (drawNext_any A' m c' _ hm8 hm).mono ?_
          rintro e u6 ⟨gs, rfl, bu6⟩
          have bx9 : Below w.heap.size w u6 := bx8.trans (bu6.mono bx8.size)
          clear bu6
          go_wp2_with fail
          refine (implNext_any gs _).mono ?_
          rintro e u6' ⟨rfl, rfl⟩
          go_wp2_with fail
          refine (specNext_any gs _).mono ?_
          rintro e u6' ⟨rfl, rfl⟩
          have f1 : (turnB ys s2 x2 == turnB ys s2 x2) = true := by simp
          have f2 : (turnR ys s2 x2 == turnR ys s2 x2) = true := by simp
          have f3 : (untilB zs s3 x3 == untilB zs s3 x3) = true := by simp
          have f4 : (untilI zs s3 x3 == untilI zs s3 x3) = true := by simp
          have f5 : (nextI gs == nextI gs) = true := by simp
          have hnp := next_pos gs
          cases hsd : seedB gs
          · clear hnp
            go_wp2
            go_ret
            exact ⟨rfl, bx9⟩
          · have hnp' : 0 < nextI gs := hnp hsd
            clear hnp
            go_wp2
            go_ret
            exact ⟨rfl, bx9⟩
        · rw [hL] at hq5
          obtain ⟨hg, hx0, hx1⟩ := lotB_parts hL
          obtain ⟨v, hv, hve, hv1, hv2⟩ := lot_spec hg hx0 hx1
          have hI := Lib.hid (show lotI ts x = (v : Int) by unfold lotI; rw [hL, if_pos rfl, hve])
          rw [hI.out] at hq6 ⊢
          have hbd := bds_of_good hg
          have hlT := oT.len
          obtain ⟨p1, p2⟩ := good_sum hg
          clear hL hve hx0 hx1 hv1 hv2 hI
          go_wp2_with fail
          refine (lawSum_any T nt ct _ ts _ oT.ints (by omega) hbd).mono ?_
          rintro e u1' ⟨rfl, rfl⟩
          by_cases h100 : sumL ts ≤ 100
          · obtain ⟨gT, mT, fT, rfl, hmT, hrT, hfT⟩ := oT.own (by omega)
            have hcT := hrT.cell (i := v) (by omega)
            rw [hfT v (by omega)] at hcT
            have hstep := Lib.hid (sumL_step (s := ts) (k := v) hv)
            have hvI : (v : Int) < (nt : Int) := by omega
            have oT' := Lib.hid oT
            have hend := Lib.hid (cnt_end hbd hv)
            have hv' := Lib.hid hv
            have hg' := Lib.hid hg
            have hbd' := Lib.hid hbd
            have hlT' := Lib.hid hlT
            clear hrT hfT oT hv hg hbd hlT
            go_wp2
            go_loop [23, 24] (fun a i => ∃ k : Nat, (k : Int) ≤ sumL ts ∧ i = .int .i64 k ∧ a = .int .i64 (cntI (sumL (ts.take v)) (sumL (ts.take (v + 1))) k)) (fun _ i => (sumL ts).toNat - (intOf i).toNat)
            case atStart => exact ⟨0, by omega, rfl, by rw [cnt_zero hbd'.out hv'.out]⟩
            case round =>
              obtain ⟨k, hk, rfl, rfl⟩ := hrel
              obtain ⟨q1, q2⟩ := cnt_bd hbd'.out hv'.out k
              by_cases hlt : (k : Int) < sumL ts
              · obtain ⟨t1, t2⟩ := lot_turn hg'.out (n := (k : Int)) (by omega) hlt hv'.out
                cases hx : (lotI ts (k : Int) == (v : Int))
                · have hst := Lib.hid (t2 hx)
                  clear t2
                  go_wp2_with (first
                    | (go_at_call 19; refine (lawSum_any _ nt ct _ ts _ oT'.out.ints (by omega) hbd'.out).mono ?_; rintro e w' ⟨rfl, rfl⟩)
                    | (go_at_call 17; refine (implLot_any _ nt ct _ ts _ _ oT'.out.ints (by omega)).mono ?_; rintro e w' ⟨rfl, rfl⟩))
                  go_round
                  case rel => exact ⟨k + 1, by omega, by go_num, by rw [show ((k + 1 : Nat) : Int) = (k : Int) + 1 by omega, hst.out]⟩
                  case measure => simp [intOf]; omega
                · have hst := Lib.hid (lot_turn_yes hg'.out (n := (k : Int)) (by omega) hlt hv'.out hx)
                  clear t2
                  go_wp2_with (first
                    | (go_at_call 19; refine (lawSum_any _ nt ct _ ts _ oT'.out.ints (by omega) hbd'.out).mono ?_; rintro e w' ⟨rfl, rfl⟩)
                    | (go_at_call 17; refine (implLot_any _ nt ct _ ts _ _ oT'.out.ints (by omega)).mono ?_; rintro e w' ⟨rfl, rfl⟩))
                  go_round
                  case rel => exact ⟨k + 1, by omega, by go_num, by rw [show ((k + 1 : Nat) : Int) = (k : Int) + 1 by omega, hst.out]⟩
                  case measure => simp [intOf]; omega
              · have hke := Lib.hid (show (k : Int) = sumL ts by omega)
                have hdone : (cntI (sumL (ts.take v)) (sumL (ts.take (v + 1))) (k : Int) != ts[v]?.getD 0) = false := by rw [hke.out, hend.out]; simp
                go_wp2_with (first
                  | (go_at_call 19; refine (lawSum_any _ nt ct _ ts _ oT'.out.ints (by omega) hbd'.out).mono ?_; rintro e w' ⟨rfl, rfl⟩))
                clear hcT hdone
                refine (drawTurn_any A' m c' _ hm4 hm).mono ?_
                rintro e u2 ⟨S2, n2, c2, ys, s2, x2, rfl, o2, hn2, bu2⟩
                have bx5 : Below w.heap.size w u2 := bx4.trans (bu2.mono bx4.size)
                have hm5 : BytesIn u2 A' m := hm4.below bu2
                clear bu2
                go_wp2_with fail
                refine (implTurn_any S2 n2 c2 _ ys s2 x2 _ o2.ints (by omega)).mono ?_
                rintro e u2' ⟨rfl, rfl⟩
                go_wp2_with fail
                refine (specTurn_any S2 n2 c2 ys s2 x2 _ o2.ints (by omega)).mono ?_
                rintro e u3 ⟨rfl, bu3⟩
                have bx6 : Below w.heap.size w u3 := bx5.trans (bu3.mono bx5.size)
                have hm6 : BytesIn u3 A' m := hm5.below bu3
                clear bu3 o2
                go_wp2_with fail
                refine (drawUntil_any A' m c' _ hm6 hm).mono ?_
                rintro e u4 ⟨S3, n3, c3, zs, s3, x3, rfl, o3, hn3, bu4⟩
                have bx7 : Below w.heap.size w u4 := bx6.trans (bu4.mono bx6.size)
                have hm7 : BytesIn u4 A' m := hm6.below bu4
                clear bu4
                go_wp2_with fail
                refine (implUntil_any S3 n3 c3 _ zs s3 x3 _ o3.ints (by omega)).mono ?_
                rintro e u4' ⟨rfl, rfl⟩
                go_wp2_with fail
                refine (specUntil_any S3 n3 c3 zs s3 x3 _ o3.ints (by omega)).mono ?_
                rintro e u5 ⟨rfl, bu5⟩
                have bx8 : Below w.heap.size w u5 := bx7.trans (bu5.mono bx7.size)
                have hm8 : BytesIn u5 A' m := hm7.below bu5
                clear bu5 o3
                go_wp2_with fail
                refine (drawNext_any A' m c' _ hm8 hm).mono ?_
                rintro e u6 ⟨gs, rfl, bu6⟩
                have bx9 : Below w.heap.size w u6 := bx8.trans (bu6.mono bx8.size)
                clear bu6
                go_wp2_with fail
                refine (implNext_any gs _).mono ?_
                rintro e u6' ⟨rfl, rfl⟩
                go_wp2_with fail
                refine (specNext_any gs _).mono ?_
                rintro e u6' ⟨rfl, rfl⟩
                have f1 : (turnB ys s2 x2 == turnB ys s2 x2) = true := by simp
                have f2 : (turnR ys s2 x2 == turnR ys s2 x2) = true := by simp
                have f3 : (untilB zs s3 x3 == untilB zs s3 x3) = true := by simp
                have f4 : (untilI zs s3 x3 == untilI zs s3 x3) = true := by simp
                have f5 : (nextI gs == nextI gs) = true := by simp
                have hnp := next_pos gs
                cases hsd : seedB gs
                · clear hnp
                  go_wp2
                  go_ret
                  exact ⟨rfl, bx9⟩
                · have hnp' : 0 < nextI gs := hnp hsd
                  clear hnp
                  go_wp2
                  go_ret
                  exact ⟨rfl, bx9⟩
          · clear hg hbd oT hlT
            go_wp2_with fail
            refine (drawTurn_any A' m c' _ hm4 hm).mono ?_
            rintro e u2 ⟨S2, n2, c2, ys, s2, x2, rfl, o2, hn2, bu2⟩
            have bx5 : Below w.heap.size w u2 := bx4.trans (bu2.mono bx4.size)
            have hm5 : BytesIn u2 A' m := hm4.below bu2
            clear bu2
            go_wp2_with fail
            refine (implTurn_any S2 n2 c2 _ ys s2 x2 _ o2.ints (by omega)).mono ?_
            rintro e u2' ⟨rfl, rfl⟩
            go_wp2_with fail
            refine (specTurn_any S2 n2 c2 ys s2 x2 _ o2.ints (by omega)).mono ?_
            rintro e u3 ⟨rfl, bu3⟩
            have bx6 : Below w.heap.size w u3 := bx5.trans (bu3.mono bx5.size)
            have hm6 : BytesIn u3 A' m := hm5.below bu3
            clear bu3 o2
            go_wp2_with fail
            refine (drawUntil_any A' m c' _ hm6 hm).mono ?_
            rintro e u4 ⟨S3, n3, c3, zs, s3, x3, rfl, o3, hn3, bu4⟩
            have bx7 : Below w.heap.size w u4 := bx6.trans (bu4.mono bx6.size)
            have hm7 : BytesIn u4 A' m := hm6.below bu4
            clear bu4
            go_wp2_with fail
            refine (implUntil_any S3 n3 c3 _ zs s3 x3 _ o3.ints (by omega)).mono ?_
            rintro e u4' ⟨rfl, rfl⟩
            go_wp2_with fail
            refine (specUntil_any S3 n3 c3 zs s3 x3 _ o3.ints (by omega)).mono ?_
            rintro e u5 ⟨rfl, bu5⟩
            have bx8 : Below w.heap.size w u5 := bx7.trans (bu5.mono bx7.size)
            have hm8 : BytesIn u5 A' m := hm7.below bu5
            clear bu5 o3
            go_wp2_with fail
            refine (drawNext_any A' m c' _ hm8 hm).mono ?_
            rintro e u6 ⟨gs, rfl, bu6⟩
            have bx9 : Below w.heap.size w u6 := bx8.trans (bu6.mono bx8.size)
            clear bu6
            go_wp2_with fail
            refine (implNext_any gs _).mono ?_
            rintro e u6' ⟨rfl, rfl⟩
            go_wp2_with fail
            refine (specNext_any gs _).mono ?_
            rintro e u6' ⟨rfl, rfl⟩
            have f1 : (turnB ys s2 x2 == turnB ys s2 x2) = true := by simp
            have f2 : (turnR ys s2 x2 == turnR ys s2 x2) = true := by simp
            have f3 : (untilB zs s3 x3 == untilB zs s3 x3) = true := by simp
            have f4 : (untilI zs s3 x3 == untilI zs s3 x3) = true := by simp
            have f5 : (nextI gs == nextI gs) = true := by simp
            have hnp := next_pos gs
            cases hsd : seedB gs
            · clear hnp
              go_wp2
              go_ret
              exact ⟨rfl, bx9⟩
            · have hnp' : 0 < nextI gs := hnp hsd
              clear hnp
              go_wp2
              go_ret
              exact ⟨rfl, bx9⟩
      · clear S3 L3
        go_wp2_with fail
        refine (drawLot_any A' m c' _ hm3 hm).mono ?_
        rintro e u1 ⟨T, nt, ct, ts, x, rfl, oT, hnt, bu⟩
        have bx4 : Below w.heap.size w u1 := bx3.trans (bu.mono bx3.size)
        have hm4 : BytesIn u1 A' m := hm3.below bu
        clear bu hm3 bx3
        go_wp2_with fail
        refine (implLot_any T nt ct _ ts x _ oT.ints (by omega)).mono ?_
        rintro e u1' ⟨rfl, rfl⟩
        go_wp2_with fail
        refine (specLot_any T nt ct _ ts x _ oT.ints (by omega)).mono ?_
        rintro e u1' ⟨rfl, rfl⟩
        have hq5 : (lotB ts x != lotB ts x) = false := by simp
        have hq6 : (lotI ts x != lotI ts x) = false := by simp
        cases hL : lotB ts x
        · rw [hL] at hq5
          clear oT
          go_wp2_with fail
          refine (drawTurn_any A' m c' _ hm4 hm).mono ?_
          rintro e u2 ⟨S2, n2, c2, ys, s2, x2, rfl, o2, hn2, bu2⟩
          have bx5 : Below w.heap.size w u2 := bx4.trans (bu2.mono bx4.size)
          have hm5 : BytesIn u2 A' m := hm4.below bu2
          clear bu2
          go_wp2_with fail
          refine (implTurn_any S2 n2 c2 _ ys s2 x2 _ o2.ints (by omega)).mono ?_
          rintro e u2' ⟨rfl, rfl⟩
          go_wp2_with fail
          refine (specTurn_any S2 n2 c2 ys s2 x2 _ o2.ints (by omega)).mono ?_
          rintro e u3 ⟨rfl, bu3⟩
          have bx6 : Below w.heap.size w u3 := bx5.trans (bu3.mono bx5.size)
          have hm6 : BytesIn u3 A' m := hm5.below bu3
          clear bu3 o2
          go_wp2_with fail
          refine (drawUntil_any A' m c' _ hm6 hm).mono ?_
          rintro e u4 ⟨S3, n3, c3, zs, s3, x3, rfl, o3, hn3, bu4⟩
          have bx7 : Below w.heap.size w u4 := bx6.trans (bu4.mono bx6.size)
          have hm7 : BytesIn u4 A' m := hm6.below bu4
          clear bu4
          go_wp2_with fail
          refine (implUntil_any S3 n3 c3 _ zs s3 x3 _ o3.ints (by omega)).mono ?_
          rintro e u4' ⟨rfl, rfl⟩
          go_wp2_with fail
          refine (specUntil_any S3 n3 c3 zs s3 x3 _ o3.ints (by omega)).mono ?_
          rintro e u5 ⟨rfl, bu5⟩
          have bx8 : Below w.heap.size w u5 := bx7.trans (bu5.mono bx7.size)
          have hm8 : BytesIn u5 A' m := hm7.below bu5
          clear bu5 o3
          go_wp2_with fail
          refine (drawNext_any A' m c' _ hm8 hm).mono ?_
          rintro e u6 ⟨gs, rfl, bu6⟩
          have bx9 : Below w.heap.size w u6 := bx8.trans (bu6.mono bx8.size)
          clear bu6
          go_wp2_with fail
          refine (implNext_any gs _).mono ?_
          rintro e u6' ⟨rfl, rfl⟩
          go_wp2_with fail
          refine (specNext_any gs _).mono ?_
          rintro e u6' ⟨rfl, rfl⟩
          have f1 : (turnB ys s2 x2 == turnB ys s2 x2) = true := by simp
          have f2 : (turnR ys s2 x2 == turnR ys s2 x2) = true := by simp
          have f3 : (untilB zs s3 x3 == untilB zs s3 x3) = true := by simp
          have f4 : (untilI zs s3 x3 == untilI zs s3 x3) = true := by simp
          have f5 : (nextI gs == nextI gs) = true := by simp
          have hnp := next_pos gs
          cases hsd : seedB gs
          · clear hnp
            go_wp2
            go_ret
            exact ⟨rfl, bx9⟩
          · have hnp' : 0 < nextI gs := hnp hsd
            clear hnp
            go_wp2
            go_ret
            exact ⟨rfl, bx9⟩
        · rw [hL] at hq5
          obtain ⟨hg, hx0, hx1⟩ := lotB_parts hL
          obtain ⟨v, hv, hve, hv1, hv2⟩ := lot_spec hg hx0 hx1
          have hI := Lib.hid (show lotI ts x = (v : Int) by unfold lotI; rw [hL, if_pos rfl, hve])
          rw [hI.out] at hq6 ⊢
          have hbd := bds_of_good hg
          have hlT := oT.len
          obtain ⟨p1, p2⟩ := good_sum hg
          clear hL hve hx0 hx1 hv1 hv2 hI
          go_wp2_with fail
          refine (lawSum_any T nt ct _ ts _ oT.ints (by omega) hbd).mono ?_
          rintro e u1' ⟨rfl, rfl⟩
          by_cases h100 : sumL ts ≤ 100
          · obtain ⟨gT, mT, fT, rfl, hmT, hrT, hfT⟩ := oT.own (by omega)
            have hcT := hrT.cell (i := v) (by omega)
            rw [hfT v (by omega)] at hcT
            have hstep := Lib.hid (sumL_step (s := ts) (k := v) hv)
            have hvI : (v : Int) < (nt : Int) := by omega
            have oT' := Lib.hid oT
            have hend := Lib.hid (cnt_end hbd hv)
            have hv' := Lib.hid hv
            have hg' := Lib.hid hg
            have hbd' := Lib.hid hbd
            have hlT' := Lib.hid hlT
            clear hrT hfT oT hv hg hbd hlT
            go_wp2
            go_loop [23, 24] (fun a i => ∃ k : Nat, (k : Int) ≤ sumL ts ∧ i = .int .i64 k ∧ a = .int .i64 (cntI (sumL (ts.take v)) (sumL (ts.take (v + 1))) k)) (fun _ i => (sumL ts).toNat - (intOf i).toNat)
            case atStart => exact ⟨0, by omega, rfl, by rw [cnt_zero hbd'.out hv'.out]⟩
            case round =>
              obtain ⟨k, hk, rfl, rfl⟩ := hrel
              obtain ⟨q1, q2⟩ := cnt_bd hbd'.out hv'.out k
              by_cases hlt : (k : Int) < sumL ts
              · obtain ⟨t1, t2⟩ := lot_turn hg'.out (n := (k : Int)) (by omega) hlt hv'.out
                cases hx : (lotI ts (k : Int) == (v : Int))
                · have hst := Lib.hid (t2 hx)
                  clear t2
                  go_wp2_with (first
                    | (go_at_call 19; refine (lawSum_any _ nt ct _ ts _ oT'.out.ints (by omega) hbd'.out).mono ?_; rintro e w' ⟨rfl, rfl⟩)
                    | (go_at_call 17; refine (implLot_any _ nt ct _ ts _ _ oT'.out.ints (by omega)).mono ?_; rintro e w' ⟨rfl, rfl⟩))
                  go_round
                  case rel => exact ⟨k + 1, by omega, by go_num, by rw [show ((k + 1 : Nat) : Int) = (k : Int) + 1 by omega, hst.out]⟩
                  case measure => simp [intOf]; omega
                · have hst := Lib.hid (lot_turn_yes hg'.out (n := (k : Int)) (by omega) hlt hv'.out hx)
                  clear t2
                  go_wp2_with (first
                    | (go_at_call 19; refine (lawSum_any _ nt ct _ ts _ oT'.out.ints (by omega) hbd'.out).mono ?_; rintro e w' ⟨rfl, rfl⟩)
                    | (go_at_call 17; refine (implLot_any _ nt ct _ ts _ _ oT'.out.ints (by omega)).mono ?_; rintro e w' ⟨rfl, rfl⟩))
                  go_round
                  case rel => exact ⟨k + 1, by omega, by go_num, by rw [show ((k + 1 : Nat) : Int) = (k : Int) + 1 by omega, hst.out]⟩
                  case measure => simp [intOf]; omega
              · have hke := Lib.hid (show (k : Int) = sumL ts by omega)
                have hdone : (cntI (sumL (ts.take v)) (sumL (ts.take (v + 1))) (k : Int) != ts[v]?.getD 0) = false := by rw [hke.out, hend.out]; simp
                go_wp2_with (first
                  | (go_at_call 19; refine (lawSum_any _ nt ct _ ts _ oT'.out.ints (by omega) hbd'.out).mono ?_; rintro e w' ⟨rfl, rfl⟩))
                clear hcT hdone
                refine (drawTurn_any A' m c' _ hm4 hm).mono ?_
                rintro e u2 ⟨S2, n2, c2, ys, s2, x2, rfl, o2, hn2, bu2⟩
                have bx5 : Below w.heap.size w u2 := bx4.trans (bu2.mono bx4.size)
                have hm5 : BytesIn u2 A' m := hm4.below bu2
                clear bu2
                go_wp2_with fail
                refine (implTurn_any S2 n2 c2 _ ys s2 x2 _ o2.ints (by omega)).mono ?_
                rintro e u2' ⟨rfl, rfl⟩
                go_wp2_with fail
                refine (specTurn_any S2 n2 c2 ys s2 x2 _ o2.ints (by omega)).mono ?_
                rintro e u3 ⟨rfl, bu3⟩
                have bx6 : Below w.heap.size w u3 := bx5.trans (bu3.mono bx5.size)
                have hm6 : BytesIn u3 A' m := hm5.below bu3
                clear bu3 o2
                go_wp2_with fail
                refine (drawUntil_any A' m c' _ hm6 hm).mono ?_
                rintro e u4 ⟨S3, n3, c3, zs, s3, x3, rfl, o3, hn3, bu4⟩
                have bx7 : Below w.heap.size w u4 := bx6.trans (bu4.mono bx6.size)
                have hm7 : BytesIn u4 A' m := hm6.below bu4
                clear bu4
                go_wp2_with fail
                refine (implUntil_any S3 n3 c3 _ zs s3 x3 _ o3.ints (by omega)).mono ?_
                rintro e u4' ⟨rfl, rfl⟩
                go_wp2_with fail
                refine (specUntil_any S3 n3 c3 zs s3 x3 _ o3.ints (by omega)).mono ?_
                rintro e u5 ⟨rfl, bu5⟩
                have bx8 : Below w.heap.size w u5 := bx7.trans (bu5.mono bx7.size)
                have hm8 : BytesIn u5 A' m := hm7.below bu5
                clear bu5 o3
                go_wp2_with fail
                refine (drawNext_any A' m c' _ hm8 hm).mono ?_
                rintro e u6 ⟨gs, rfl, bu6⟩
                have bx9 : Below w.heap.size w u6 := bx8.trans (bu6.mono bx8.size)
                clear bu6
                go_wp2_with fail
                refine (implNext_any gs _).mono ?_
                rintro e u6' ⟨rfl, rfl⟩
                go_wp2_with fail
                refine (specNext_any gs _).mono ?_
                rintro e u6' ⟨rfl, rfl⟩
                have f1 : (turnB ys s2 x2 == turnB ys s2 x2) = true := by simp
                have f2 : (turnR ys s2 x2 == turnR ys s2 x2) = true := by simp
                have f3 : (untilB zs s3 x3 == untilB zs s3 x3) = true := by simp
                have f4 : (untilI zs s3 x3 == untilI zs s3 x3) = true := by simp
                have f5 : (nextI gs == nextI gs) = true := by simp
                have hnp := next_pos gs
                cases hsd : seedB gs
                · clear hnp
                  go_wp2
                  go_ret
                  exact ⟨rfl, bx9⟩
                · have hnp' : 0 < nextI gs := hnp hsd
                  clear hnp
                  go_wp2
                  go_ret
                  exact ⟨rfl, bx9⟩
          · clear hg hbd oT hlT
            go_wp2_with fail
            refine (drawTurn_any A' m c' _ hm4 hm).mono ?_
            rintro e u2 ⟨S2, n2, c2, ys, s2, x2, rfl, o2, hn2, bu2⟩
            have bx5 : Below w.heap.size w u2 := bx4.trans (bu2.mono bx4.size)
            have hm5 : BytesIn u2 A' m := hm4.below bu2
            clear bu2
            go_wp2_with fail
            refine (implTurn_any S2 n2 c2 _ ys s2 x2 _ o2.ints (by omega)).mono ?_
            rintro e u2' ⟨rfl, rfl⟩
            go_wp2_with fail
            refine (specTurn_any S2 n2 c2 ys s2 x2 _ o2.ints (by omega)).mono ?_
            rintro e u3 ⟨rfl, bu3⟩
            have bx6 : Below w.heap.size w u3 := bx5.trans (bu3.mono bx5.size)
            have hm6 : BytesIn u3 A' m := hm5.below bu3
            clear bu3 o2
            go_wp2_with fail
            refine (drawUntil_any A' m c' _ hm6 hm).mono ?_
            rintro e u4 ⟨S3, n3, c3, zs, s3, x3, rfl, o3, hn3, bu4⟩
            have bx7 : Below w.heap.size w u4 := bx6.trans (bu4.mono bx6.size)
            have hm7 : BytesIn u4 A' m := hm6.below bu4
            clear bu4
            go_wp2_with fail
            refine (implUntil_any S3 n3 c3 _ zs s3 x3 _ o3.ints (by omega)).mono ?_
            rintro e u4' ⟨rfl, rfl⟩
            go_wp2_with fail
            refine (specUntil_any S3 n3 c3 zs s3 x3 _ o3.ints (by omega)).mono ?_
            rintro e u5 ⟨rfl, bu5⟩
            have bx8 : Below w.heap.size w u5 := bx7.trans (bu5.mono bx7.size)
            have hm8 : BytesIn u5 A' m := hm7.below bu5
            clear bu5 o3
            go_wp2_with fail
            refine (drawNext_any A' m c' _ hm8 hm).mono ?_
            rintro e u6 ⟨gs, rfl, bu6⟩
            have bx9 : Below w.heap.size w u6 := bx8.trans (bu6.mono bx8.size)
            clear bu6
            go_wp2_with fail
            refine (implNext_any gs _).mono ?_
            rintro e u6' ⟨rfl, rfl⟩
            go_wp2_with fail
            refine (specNext_any gs _).mono ?_
            rintro e u6' ⟨rfl, rfl⟩
            have f1 : (turnB ys s2 x2 == turnB ys s2 x2) = true := by simp
            have f2 : (turnR ys s2 x2 == turnR ys s2 x2) = true := by simp
            have f3 : (untilB zs s3 x3 == untilB zs s3 x3) = true := by simp
            have f4 : (untilI zs s3 x3 == untilI zs s3 x3) = true := by simp
            have f5 : (nextI gs == nextI gs) = true := by simp
            have hnp := next_pos gs
            cases hsd : seedB gs
            · clear hnp
              go_wp2
              go_ret
              exact ⟨rfl, bx9⟩
            · have hnp' : 0 < nextI gs := hnp hsd
              clear hnp
              go_wp2
              go_ret
              exact ⟨rfl, bx9⟩
  · have hgt : (1048576 : Int) < (n : Int) + (m : Int) := by omega
    go_enter Try.func3, Try.ntmps3
    go_wp2
    go_ret
    exact ⟨rfl, Below.refl _ _⟩
end Go.Proofs.Ytagppnmokmnofaa
