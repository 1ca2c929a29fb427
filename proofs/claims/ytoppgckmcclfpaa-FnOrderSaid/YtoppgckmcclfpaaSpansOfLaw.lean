/- What is proved here: the law on SpansOf returns true at every slice of blocks, and writes nothing that was there. No conditions. -/
import Derived.Test.YtoppgckmcclfpaaSpansSpec
namespace Go.Proofs.Ytoppgckmcclfpaa
open Go.RowKit

theorem RowsOwn.keepB {w w' : World} {B n : Nat} {A : Option Addr} {r : Nat → List Int} (h : RowsOwn w B A n r) (hs : w.heap.size ≤ w'.heap.size) (hk : ∀ k, B ≤ k → k < w.heap.size → w'.heap[k]? = w.heap[k]?) : RowsOwn w' B A n r :=
  ⟨fun hn => by
    obtain ⟨g, m, f, e, hB, hm, hr, ad, ca, h1, h2⟩ := h.own hn
    exact ⟨g, m, f, e, hB, hm, hr.of_block (hk g hB hr.lt), ad, ca, fun i hi => ⟨(h1 i hi).1, (h1 i hi).2.1.keep hs (fun x hx => hk _ ((h1 i hi).2.1.low x hx).1 ((h1 i hi).2.1.low x hx).2), (h1 i hi).2.2⟩, h2⟩⟩
theorem spansR_len (ts : List Blk) : (spansR ts).length ≤ 100 := by
  unfold spansR
  cases hg : goodT ts
  · simp
  · have := (goodT_iff.1 hg).few
    have := spansT_len ts
    simp; omega
theorem spansR_short (ts : List Blk) : short (spansR ts) := by
  intro i
  unfold spansR
  cases hg : goodT ts
  · simp [rowG]
  · simp only [if_true]
    by_cases h : i < ts.length
    · rw [spansT_row h]; unfold spanRow; simp
    · unfold rowG
      rw [List.getElem?_eq_none (by rw [spansT_len]; omega)]; simp
theorem specSpans_S (A : Option Addr) (n c : Nat) (ts : List Blk) (w : World) (h : BlksAt w w.heap.size A n ts) (hn : n ≤ 1048576) :
    Calls Try.prog 43 #[.slice A n c] w fun e w' => ∃ A n c, e = .returned (.tuple #[.slice A n c, .bool (goodT ts)]) ∧ RowsAt w' w'.heap.size A n (spansR ts) ∧ Below w.heap.size w w' := by
  refine (specSpans_any A n c ts w h hn).mono ?_
  rintro e w' ⟨A', n', c', rfl, hl, ho, hb⟩
  exact ⟨A', n', c', rfl, ho.at hl (fun _ _ => rfl), hb⟩

set_option maxHeartbeats 1600000 in
theorem lawSpansOf (A : Option Addr) (n c : Nat) (ts : List Blk) (w : World) (h : BlksAt w w.heap.size A n ts) (hn : n ≤ 140737488351232) :
    Calls Try.prog 8 #[.slice A n c] w fun e w' => e = .returned (.bool true) ∧ Below w.heap.size w w' := by
  by_cases hm : n ≤ 1048576
  · have hlf := Lib.hid (show leftR n = 1048576 - n by unfold leftR; rw [if_pos hm])
    have hh := Lib.hid h; clear h
    have hlen := Lib.hid (spansR_len ts)
    have hsh := Lib.hid (spansR_short ts)
    have hq0 : (goodT ts != goodT ts) = false := by simp
    have hqe : eqT ts ts = true := by unfold eqT; simp
    go_enter Try.func8, Try.ntmps8
    go_wp2_with (go_at_call 64; refine (szBlockS_any _ _ _ _ hn).mono ?_; rintro e w' ⟨rfl, rfl⟩; rw [hlf.out])
    refine (toBlockS_any _ _ _ ts _ hh.out hm).mono ?_
    rintro e w1 ⟨rfl, r1, b1, s1⟩
    have k1 := Lib.hid (BlksAt.of_row s1 hh.out.1 r1)
    have u1 := Lib.hid b1
    clear r1 b1 s1
    go_wp2_with fail
    refine (specSpans_S _ n _ ts _ k1.out hm).mono ?_
    rintro e w2 ⟨A0, n0, c0, rfl, o2, b2⟩
    have hn0 : n0 ≤ 100 := by rw [← o2.len]; exact hlen.out
    have hl0 := Lib.hid o2.len
    have o2' := Lib.hid o2
    have u2 := Lib.hid (u1.out.trans (b2.mono u1.out.size)); clear b2 o2
    go_wp2_with fail
    refine (toBlockS_any _ _ _ ts _ (hh.out.up u2.out) hm).mono ?_
    rintro e w3 ⟨rfl, r3, b3, s3⟩
    have k3 := Lib.hid (BlksAt.of_row s3 hh.out.1 r3)
    have r3' := Lib.hid r3
    have o3 := Lib.hid (o2'.out.below b3)
    have u3 := Lib.hid (u2.out.trans (b3.mono u2.out.size))
    have s3' := Lib.hid s3
    have s2' := Lib.hid u2.out.size
    clear r3 b3 s3 o2' u2
    generalize w2.heap.size = gx at k3 r3' s3' s2' o3 ⊢
    go_wp2_with fail
    refine (implSpans_any _ n _ ts _ k3.out hm).mono ?_
    rintro e w4 ⟨A6, n6, c6, rfl, hl4, o4, b4⟩
    have hn6 : n6 = n0 := by rw [← hl4]; exact hl0.out
    subst hn6
    have g4 := Lib.hid o4
    have z4 := Lib.hid (Nat.le_trans (Nat.le_of_lt s3'.out) b4.size)
    have p4 := Lib.hid (o3.out.below (b4.mono (Nat.le_of_lt s3'.out)))
    have r4 := Lib.hid (rowIs_below r3'.out b4 s3'.out)
    have k4 := Lib.hid (k3.out.up b4)
    have u4 := Lib.hid (u3.out.trans (b4.mono u3.out.size)); clear b4 o4 o3 k3 r3' hl4 u3
    go_wp2_with fail
    refine (eqRows_any A6 A0 n6 c6 c0 w4.heap.size _ w4 (g4.out.at hl0.out (fun _ _ => rfl)) (p4.out.more z4.out) hsh.out (by omega)).mono ?_
    rintro e w4' ⟨rfl, d4, rfl⟩
    go_wp2_with fail
    refine (toBlockS_any _ _ _ ts (w4.drewN d4) (hh.out.up (below_drewN u4.out d4)) hm).mono ?_
    rintro e w5 ⟨rfl, r5, b5, s5⟩
    have b5' : Below w4.heap.size w4 w5 := (below_drewN (Below.refl _ _) d4).trans b5
    have k5 := Lib.hid (BlksAt.of_row s5 hh.out.1 r5)
    have k4' := Lib.hid (k4.out.up b5')
    have g5 := Lib.hid (g4.out.below b5')
    have z5 := Lib.hid (Nat.le_trans z4.out b5'.size)
    have p5 := Lib.hid (p4.out.below (b5'.mono z4.out))
    have r5' := Lib.hid (rowIs_below r4.out b5' r4.out.lt)
    have u5 := Lib.hid (u4.out.trans (b5'.mono u4.out.size))
    clear r5 b5 s5 b5' g4 p4 r4 k4 u4
    go_wp2_with fail
    refine (eqBlockS_any _ _ _ _ _ _ ts ts _ k4'.out k5.out hm hm).mono ?_
    rintro e w6 ⟨rfl, b6⟩
    rw [hqe]
    have g6 := Lib.hid (g5.out.below b6)
    have z6 := Lib.hid (Nat.le_trans z5.out b6.size)
    have p6 := Lib.hid (p5.out.below (b6.mono z5.out))
    have r6 := Lib.hid (rowIs_below r5'.out b6 r5'.out.lt)
    have u6 := Lib.hid (u5.out.trans (b6.mono u5.out.size)); clear b6 g5 p5 r5' k4' k5 u5
    go_wp2_with fail
    refine (markBlk_any gx n _ _ _ r6.out hm).mono ?_
    rintro e w7 ⟨rfl, o1, o2, o3, o4, o5⟩
    have b7 : Below gx w6 w7 := ⟨o1, o2, o3, by rw [o4]; exact Nat.le_refl _, fun k hk => o5 k (by omega)⟩
    have g7 := Lib.hid (g6.out.keepB (w' := w7) (by rw [o4]; exact Nat.le_refl _) (fun k hk _ => o5 k (by have := s3'.out; omega)))
    have z7 := Lib.hid (Nat.le_trans z6.out b7.size)
    have p7 := Lib.hid (p6.out.below b7)
    have u7 := Lib.hid (u6.out.trans (b7.mono s2'.out))
    clear o1 o2 o3 o4 o5 g6 p6 r6 b7 u6
    have hk0 : ¬ (1 + (n : Int) * 2) < 0 := by omega
    go_wp2_with fail
    refine (eqRows_any A6 A0 n6 c6 c0 w7.heap.size _ w7 (g7.out.at hl0.out (fun _ _ => rfl)) (p7.out.more z7.out) hsh.out (by omega)).mono ?_
    rintro e w7' ⟨rfl, d7, rfl⟩
    clear hk0
    go_wp2_with fail
    refine (markRows_any A6 n6 c6 _ _ (w7.drewN d7) (g7.out.drewN d7) hsh.out (by omega)).mono ?_
    rintro e w8 ⟨rfl, g8, b8⟩
    have b8' : Below w3.heap.size w7 w8 := (below_drewN (Below.refl _ _) d7).trans b8
    have z8 := Lib.hid (Nat.le_trans z7.out b8'.size)
    have p8 := Lib.hid (p7.out.below (b8'.mono (Nat.le_of_lt s3'.out)))
    have u8 := Lib.hid (u7.out.trans (b8'.mono (Nat.le_trans s2'.out (Nat.le_of_lt s3'.out))))
    have g8' := Lib.hid g8
    have ht100 := tot_le hsh.out n6
    clear b8 b8' g7 p7 g8 u7
    go_wp2_with fail
    refine (heldRows_any A6 n6 c6 _ _ w8 g8'.out hsh.out (by omega)).mono ?_
    rintro e w8' ⟨rfl, rfl⟩
    generalize hT : tot (spansR ts) n6 = T at ht100 ⊢
    have hT' := Lib.hid hT; clear hT
    have hlt0 : ¬ (1 + (T : Int)) < 0 := by omega
    have hne : ((1 + (T : Int)) != (1 + (T : Int))) = false := by simp
    go_wp2_with fail
    refine (toBlockS_any _ _ _ ts _ (hh.out.up u8.out) hm).mono ?_
    rintro e w9 ⟨rfl, r9, b9, s9⟩
    have k9 := Lib.hid (BlksAt.of_row s9 hh.out.1 r9)
    have z9 := Lib.hid (Nat.le_trans z8.out b9.size)
    have p9 := Lib.hid (p8.out.below (b9.mono z8.out))
    have g9 := Lib.hid (g8'.out.below b9)
    have u9 := Lib.hid (u8.out.trans (b9.mono u8.out.size))
    clear r9 b9 s9 p8 g8' u8
    go_wp2_with fail
    refine (implSpans_any _ n _ ts _ k9.out hm).mono ?_
    rintro e w10 ⟨A10, n10, c10, rfl, hl10, o10, b10⟩
    have hn10 : n10 = n6 := by rw [← hl10]; exact hl0.out
    subst hn10
    have i10 := Lib.hid (o10.at hl0.out (fun _ _ => rfl))
    have p10 := Lib.hid ((p9.out.below (b10.mono z9.out)).more (Nat.le_trans z9.out b10.size))
    have g10 := Lib.hid (g9.out.below b10)
    have u10 := Lib.hid (u9.out.trans (b10.mono u9.out.size)); clear b10 o10 p9 g9 hl10 u9
    go_wp2_with fail
    refine (eqRows_any A10 A0 n10 c10 c0 w10.heap.size _ w10 i10.out p10.out hsh.out (by omega)).mono ?_
    rintro e w10' ⟨rfl, d10, rfl⟩
    go_wp2_with fail
    refine (heldRows_any A6 n10 c6 _ _ (w10.drewN d10) (g10.out.drewN d10) hsh.out (by omega)).mono ?_
    rintro e w11 ⟨rfl, rfl⟩
    rw [hT'.out]
    go_wp2_with fail
    go_ret
    exact ⟨rfl, below_drewN u10.out d10⟩
  · have hlf := Lib.hid (show leftR n = -1 by unfold leftR; rw [if_neg hm])
    clear h
    go_enter Try.func8, Try.ntmps8
    go_wp2_with (go_at_call 64; refine (szBlockS_any _ _ _ _ hn).mono ?_; rintro e w' ⟨rfl, rfl⟩; rw [hlf.out])
    go_ret
    exact ⟨rfl, Below.refl _ _⟩
end Go.Proofs.Ytoppgckmcclfpaa
