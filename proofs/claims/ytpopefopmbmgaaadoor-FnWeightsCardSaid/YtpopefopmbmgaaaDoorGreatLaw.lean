/- What is proved here: the law FnGreat returns true at every two slices of bytes, and writes nothing that was there. No conditions but that the table of bits holds what its text lays. -/
import Derived.Test.YtpopefopmbmgaaaDoorLawHelp
import Derived.Test.YtpopefopmbmgaaaDoorSmallSpec
import Derived.Test.YtpopefopmbmgaaaDoorInBothLaw
namespace Go.Proofs.YtpopefopmbmgaaaDoor
open Go.RowKit

theorem best_from (l : List Nat) : ∀ o : Option Nat, (∀ b, l.foldl pickO o = some b → (o = some b ∨ b ∈ l) ∧ (∀ b0, o = some b0 → cnt b ≤ cnt b0) ∧ ∀ x, x ∈ l → cnt b ≤ cnt x) ∧ (l.foldl pickO o = none → l = []) := by
  induction l with
  | nil =>
    intro o
    refine ⟨fun b h => ?_, fun _ => rfl⟩
    have h' : o = some b := h
    exact ⟨.inl h', fun b0 h0 => by rw [h'] at h0; cases h0; exact Nat.le_refl _, fun x hx => by cases hx⟩
  | cons m l ih =>
    intro o
    have hp : ∃ p, pickO o m = some p ∧ (p = m ∨ o = some p) ∧ cnt p ≤ cnt m ∧ ∀ b0, o = some b0 → cnt p ≤ cnt b0 := by
      cases o with
      | none => exact ⟨m, rfl, .inl rfl, Nat.le_refl _, fun b0 h => by cases h⟩
      | some b0 =>
        by_cases hc : cnt m < cnt b0
        · exact ⟨m, if_pos hc, .inl rfl, Nat.le_refl _, fun b1 h => by cases h; omega⟩
        · exact ⟨b0, if_neg hc, .inr rfl, by omega, fun b1 h => by cases h; exact Nat.le_refl _⟩
    obtain ⟨p, hp1, hp2, hp3, hp4⟩ := hp
    rw [List.foldl_cons, hp1]
    obtain ⟨i1, i2⟩ := ih (some p)
    refine ⟨fun b hb => ?_, fun hn => ?_⟩
    · obtain ⟨j1, j2, j3⟩ := i1 b hb
      have hbp := j2 p rfl
      refine ⟨?_, fun b0 h0 => by have := hp4 b0 h0; omega, fun x hx => ?_⟩
      · rcases j1 with j1 | j1
        · cases j1
          rcases hp2 with rfl | h
          · exact .inr (by simp)
          · exact .inl h
        · exact .inr (by simp [j1])
      · rcases List.mem_cons.1 hx with rfl | hx
        · omega
        · exact j3 x hx
    · have hl := i2 hn
      subst hl
      cases hn
theorem bestO_spec {l : List Nat} (h : l ≠ []) : ∃ b, bestO l = some b ∧ b ∈ l ∧ ∀ x, x ∈ l → cnt b ≤ cnt x := by
  obtain ⟨h1, h2⟩ := best_from l none
  cases hb : bestO l with
  | none => exact absurd (h2 hb) h
  | some b =>
    obtain ⟨j1, _, j3⟩ := h1 b hb
    rcases j1 with j | j
    · cases j
    · exact ⟨b, rfl, j, j3⟩

theorem ris_of_sorted {xs : List Int} {lo hi : Int} (h : xs.Pairwise (· < ·)) (hb : ∀ x, x ∈ xs → lo ≤ x ∧ x ≤ hi) : risB xs lo hi = true := by
  rw [risB_iff]
  intro k hk
  rw [risAt_iff]
  have e : xs[k]?.getD 0 = xs[k] := by rw [List.getElem?_eq_getElem hk]; rfl
  refine ⟨by rw [e]; exact hb _ (List.getElem_mem hk), fun h0 => ?_⟩
  have e2 : xs[k-1]?.getD 0 = xs[k-1] := by rw [List.getElem?_eq_getElem (show k - 1 < xs.length by omega)]; rfl
  rw [e, e2]
  exact List.pairwise_iff_getElem.1 h (k - 1) k (by omega) hk (by omega)
theorem ofL_ris {m n : Nat} (h : m < bitN n) (hn : n ≤ 10) : risB (ofL m 10) 0 ((n : Int) - 1) = true := by
  rw [ofL_ten h hn]
  refine ris_of_sorted (ofL_sorted _ _) (fun x hx => ?_)
  obtain ⟨i, hi, _, rfl⟩ := ofL_mem.1 hx
  omega
theorem of_mask {s : List Int} {m : Nat} (hg : goodB s = true) (h : m < bitN s.length) : ofB s (ofL m 10) = true ∧ gOf s (ofL m 10) = gq s m := by
  have hn : s.length ≤ 10 := by have := (goodB_iff.1 hg).1.2; omega
  have h1 : ofB s (ofL m 10) = true := by unfold ofB; rw [hg, ofL_ris h hn]; rfl
  refine ⟨h1, ?_⟩
  unfold gOf
  rw [h1, gq_great hn h]; rfl
/-- The smallest quorum: it is one, and no quorum has fewer voters. -/
theorem small_spec {s : List Int} (hg : goodB s = true) : ofB s (smallR s) = true ∧ gOf s (smallR s) = true ∧ ∀ m, m < bitN s.length → gq s m = true → (smallR s).length ≤ (ofL m 10).length := by
  have hbd := bds_of_good hg
  have hne : qsTo s (bitN s.length) ≠ [] := by
    intro e
    have := qs_pos hbd
    rw [e] at this
    simp at this
  obtain ⟨b, hb, hm, hle⟩ := bestO_spec hne
  have hR : smallR s = ofL b 10 := by unfold smallR; rw [hg, if_pos rfl, hb]; rfl
  have hbm := qsTo_mem.1 hm
  obtain ⟨o1, o2⟩ := of_mask hg hbm.1
  rw [hR]
  exact ⟨o1, by rw [o2]; exact hbm.2, fun m h1 h2 => hle m (qsTo_mem.2 ⟨h1, h2⟩)⟩

set_option maxHeartbeats 6400000 in
set_option maxRecDepth 100000 in
theorem lawGreat (A A' : Option Addr) (n m c c' : Nat) (w : World) (hcode : BytesIn w A n) (hmore : BytesIn w A' m) (hnn : n ≤ 140737488351232) (hmm : m ≤ 140737488351232) (ht : TabOk w) :
    Calls Tryd.prog 4 #[.slice A n c, .slice A' m c'] w fun e w' => e = .returned (.bool true) ∧ Below w.heap.size w w' := by
  by_cases hs : n + m ≤ 1048576
  · have hn : n ≤ 1048576 := by omega
    have hm : m ≤ 1048576 := by omega
    have hsI : ¬ (1048576 : Int) < (n : Int) + (m : Int) := by omega
    clear hnn hmm
    go_enter Tryd.func4, Tryd.ntmps4
    go_wp2_with fail
    refine (drawSmall_any A n c w hcode hn).mono ?_
    rintro e w1 ⟨S, ns, cs, xs, rfl, oS, hns, b1⟩
    have t1 : TabOk w1 := ht.below b1 ht.pos
    have hlen := smallR_len xs
    have hq1 : (goodB xs != goodB xs) = false := by simp
    have hq2 : eqB (smallR xs) (smallR xs) = true := eqB_yes rfl (fun _ _ => rfl)
    go_wp2_with fail
    refine (implSmall_any S ns cs xs w1 oS.ints (by omega) t1).mono ?_
    rintro e w2 ⟨G, ng, cg, rfl, oG, b2⟩
    have hng : ng ≤ 10 := by rw [← oG.len]; exact hlen
    go_wp2_with fail
    refine (specSmall_any S ns cs xs w2 (oS.below b2).ints (by omega)).mono ?_
    rintro e w3 ⟨G', ng', cg', rfl, oG', b3⟩
    have hng' : ng' ≤ 10 := by rw [← oG'.len]; exact hlen
    go_wp2_with fail
    refine (sameInts_any G G' ng ng' cg cg' w3.heap.size _ _ _ (oG.below b3).ints oG'.ints (by omega) (by omega)).mono ?_
    rintro e w3' ⟨rfl, d, rfl⟩
    have b13 : Below w1.heap.size w1 w3 := b2.trans (b3.mono b2.size)
    have b03 : Below w.heap.size w w3 := b1.trans (b13.mono b1.size)
    have S3 : OwnAt (w3.drewN d) w.heap.size S ns xs := ((oS.below b2).below b3).drewN d
    have G3 : OwnAt (w3.drewN d) w1.heap.size G ng (smallR xs) := (oG.below b3).drewN d
    have bx3 : Below w.heap.size w (w3.drewN d) := below_drewN b03 d
    have t3 : TabOk (w3.drewN d) := ht.below bx3 ht.pos
    clear oS oG oG' b2 b3 b13 b03 t1 hng'
    cases hg : goodB xs
    · have bx := bx3
      go_wp2_with fail
      refine (drawBoth_any A' m c' _ (hmore.below bx) hm).mono ?_
      rintro e u1 ⟨P1, p1, q1, la, P2, p2, q2, lb, rfl, oA, oB, hp1, hp2, bu1⟩
      have bu1' : Below w.heap.size w u1 := bx.trans (bu1.mono bx.size)
      have tu1 : TabOk u1 := ht.below bu1' ht.pos
      have hqq : (bothOk la lb == bothOk la lb) = true := by simp
      have hqr : eqB (bothR la lb) (bothR la lb) = true := eqB_yes rfl (fun _ _ => rfl)
      have hlr := bothR_len la lb
      rw [oA.len] at hlr
      go_wp2_with fail
      refine (implBoth_any _ _ _ _ _ _ la lb _ oA.ints oB.ints (by omega) (by omega) tu1).mono ?_
      rintro e u2 ⟨P3, p3, q3, rfl, o3, bu2⟩
      have hp3 : p3 ≤ 12 := by rw [← o3.len]; omega
      go_wp2_with fail
      refine (specBoth_any _ _ _ _ _ _ la lb _ (oA.below bu2).ints (oB.below bu2).ints (by omega) (by omega)).mono ?_
      rintro e u3 ⟨P4, p4, q4, rfl, o4, bu3⟩
      have hp4 : p4 ≤ 12 := by rw [← o4.len]; omega
      go_wp2_with fail
      refine (sameInts_any _ _ _ _ _ _ u3.heap.size _ _ _ (o3.below bu3).ints o4.ints (by omega) (by omega)).mono ?_
      rintro e u4 ⟨rfl, dd, rfl⟩
      have bfin : Below w.heap.size w u3 := (bu1'.trans (bu2.mono bu1'.size)).trans (bu3.mono (Nat.le_trans bu1'.size bu2.size))
      clear o3 o4 oA oB bu1 bu2 bu3 bu1' tu1 bx
      go_wp2
      go_ret
      exact ⟨rfl, below_drewN bfin dd⟩
    · obtain ⟨f1, f2, f3⟩ := small_spec hg
      have f3' := Lib.hid f3; clear f3
      have hl := Lib.hid S3.len
      have hns10 : ns ≤ 10 := by have := (goodB_iff.1 hg).1.2; rw [hl.out] at this; omega
      have hsh := pow_bit ns hns10
      have hbp := bitN_pos ns
      have hbt := bitN_ten hns10
      go_wp2_with fail
      refine (implIsGreat_any _ _ _ _ _ _ w3.heap.size xs (smallR xs) _ S3.ints G3.ints (by omega) (by omega)).mono ?_
      rintro e w4 ⟨rfl, rfl⟩
      go_wp2_with fail
      refine (numberOf_any A' m c' _ (hmore.below bx3) hm).mono ?_
      rintro e w4 ⟨x, rfl, hx0, hx1, rfl⟩
      have hbpI : (0 : Int) < (bitN ns : Int) := by omega
      have hbnI : ((bitN ns : Int) == 0) = false := by rw [beq_eq_false_iff_ne]; omega
      obtain ⟨r, hr⟩ : ∃ r : Nat, x % (bitN ns : Int) = (r : Int) := ⟨(x % (bitN ns : Int)).toNat, by have := Int.emod_nonneg x (show (bitN ns : Int) ≠ 0 by omega); omega⟩
      have hrlt : r < bitN ns := by have := Int.emod_lt_of_pos x hbpI; omega
      have hr' := Lib.hid hr; clear hr
      have hok := Lib.hid (show okM (r : Int) = true from inB_true (by omega) (by omega))
      have hoR := Lib.hid (show ofR (r : Int) = ofL r 10 by unfold ofR; rw [hok.out, if_pos rfl, Int.toNat_natCast])
      obtain ⟨m1, m2⟩ := of_mask hg (show r < bitN xs.length by rw [hl.out]; exact hrlt)
      have m2' := Lib.hid m2; clear m2
      have hlr10 := ofL_len r 10
      go_wp2_with fail
      rw [hr'.out]
      refine (implOf_any _ _ t3).mono ?_
      rintro e w5 ⟨A5, n5, c5, rfl, o5, b5⟩
      rw [hoR.out] at o5
      rw [hok.out]
      have hn5 : n5 ≤ 10 := by rw [← o5.len]; exact hlr10
      have hn5e := Lib.hid o5.len
      have hnge := Lib.hid G3.len
      have bx : Below w.heap.size w w5 := bx3.trans (b5.mono bx3.size)
      have S5 : OwnAt w5 w.heap.size S ns xs := S3.below b5
      clear S3 t3 bx3 hsh hbpI hbnI
      go_wp2_with fail
      refine (implIsGreat_any _ _ _ _ _ _ w5.heap.size xs (ofL r 10) _ S5.ints o5.ints (by omega) (by omega)).mono ?_
      rintro e w6 ⟨rfl, rfl⟩
      clear o5 S5 b5
      cases hh : gOf xs (ofL r 10)
      · clear G3
        go_wp2_with fail
        refine (drawBoth_any A' m c' _ (hmore.below bx) hm).mono ?_
        rintro e u1 ⟨P1, p1, q1, la, P2, p2, q2, lb, rfl, oA, oB, hp1, hp2, bu1⟩
        have bu1' : Below w.heap.size w u1 := bx.trans (bu1.mono bx.size)
        have tu1 : TabOk u1 := ht.below bu1' ht.pos
        have hqq : (bothOk la lb == bothOk la lb) = true := by simp
        have hqr : eqB (bothR la lb) (bothR la lb) = true := eqB_yes rfl (fun _ _ => rfl)
        have hlr := bothR_len la lb
        rw [oA.len] at hlr
        go_wp2_with fail
        refine (implBoth_any _ _ _ _ _ _ la lb _ oA.ints oB.ints (by omega) (by omega) tu1).mono ?_
        rintro e u2 ⟨P3, p3, q3, rfl, o3, bu2⟩
        have hp3 : p3 ≤ 12 := by rw [← o3.len]; omega
        go_wp2_with fail
        refine (specBoth_any _ _ _ _ _ _ la lb _ (oA.below bu2).ints (oB.below bu2).ints (by omega) (by omega)).mono ?_
        rintro e u3 ⟨P4, p4, q4, rfl, o4, bu3⟩
        have hp4 : p4 ≤ 12 := by rw [← o4.len]; omega
        go_wp2_with fail
        refine (sameInts_any _ _ _ _ _ _ u3.heap.size _ _ _ (o3.below bu3).ints o4.ints (by omega) (by omega)).mono ?_
        rintro e u4 ⟨rfl, dd, rfl⟩
        have bfin : Below w.heap.size w u3 := (bu1'.trans (bu2.mono bu1'.size)).trans (bu3.mono (Nat.le_trans bu1'.size bu2.size))
        clear o3 o4 oA oB bu1 bu2 bu3 bu1' tu1 bx
        go_wp2
        go_ret
        exact ⟨rfl, below_drewN bfin dd⟩
      · have hge := f3'.out r (by rw [hl.out]; exact hrlt) (m2'.out.symm.trans hh)
        rw [hn5e.out, hnge.out] at hge
        have hnlt : ¬ n5 < ng := by omega
        clear G3 hge
        go_wp2_with fail
        refine (drawBoth_any A' m c' _ (hmore.below bx) hm).mono ?_
        rintro e u1 ⟨P1, p1, q1, la, P2, p2, q2, lb, rfl, oA, oB, hp1, hp2, bu1⟩
        have bu1' : Below w.heap.size w u1 := bx.trans (bu1.mono bx.size)
        have tu1 : TabOk u1 := ht.below bu1' ht.pos
        have hqq : (bothOk la lb == bothOk la lb) = true := by simp
        have hqr : eqB (bothR la lb) (bothR la lb) = true := eqB_yes rfl (fun _ _ => rfl)
        have hlr := bothR_len la lb
        rw [oA.len] at hlr
        go_wp2_with fail
        refine (implBoth_any _ _ _ _ _ _ la lb _ oA.ints oB.ints (by omega) (by omega) tu1).mono ?_
        rintro e u2 ⟨P3, p3, q3, rfl, o3, bu2⟩
        have hp3 : p3 ≤ 12 := by rw [← o3.len]; omega
        go_wp2_with fail
        refine (specBoth_any _ _ _ _ _ _ la lb _ (oA.below bu2).ints (oB.below bu2).ints (by omega) (by omega)).mono ?_
        rintro e u3 ⟨P4, p4, q4, rfl, o4, bu3⟩
        have hp4 : p4 ≤ 12 := by rw [← o4.len]; omega
        go_wp2_with fail
        refine (sameInts_any _ _ _ _ _ _ u3.heap.size _ _ _ (o3.below bu3).ints o4.ints (by omega) (by omega)).mono ?_
        rintro e u4 ⟨rfl, dd, rfl⟩
        have bfin : Below w.heap.size w u3 := (bu1'.trans (bu2.mono bu1'.size)).trans (bu3.mono (Nat.le_trans bu1'.size bu2.size))
        clear o3 o4 oA oB bu1 bu2 bu3 bu1' tu1 bx
        go_wp2
        go_ret
        exact ⟨rfl, below_drewN bfin dd⟩
  · have hsI : (1048576 : Int) < (n : Int) + (m : Int) := by omega
    clear hs
    go_enter Tryd.func4, Tryd.ntmps4
    go_wp2
    go_ret
    exact ⟨rfl, Below.refl _ _⟩
end Go.Proofs.YtpopefopmbmgaaaDoor
