/- What is proved here: what the model's draw of a vote returns: some vote. No conditions beside that the cursor is one. -/
import Derived.Test.YthiegfbdmmpabaaDrawTrees
import Derived.Test.YthiegfbdmmpabaaViewBox
import Derived.Deep.Cut
import Derived.Deep.CutRange
import Derived.Deep.RegionHeld3
import Derived.Test.YthiegfbdmmpabaaMergeSpec
import Derived.Deep.AppendLies
import Derived.Deep.RegionLaw
import Derived.Test.YthiegfbdmmpabaaLawHelp
namespace Go.Proofs.Ythiegfbdmmpabaa
open Go.RowKit

section
variable {w : World} {g : Nat} {t : TypeId} {a b c : Value}
theorem row3_set (h : w.rowIs g t 3 (fn3 a b c)) (x y z : Value) : (((w.setCell ⟨g, 0, none⟩ x).setCell ⟨g, 1, none⟩ y).setCell ⟨g, 2, none⟩ z).rowIs g t 3 (fn3 x y z) :=
  (((h.set 0 x).set 1 y).set 2 z).congr (fun i hi => by
    have : i = 0 ∨ i = 1 ∨ i = 2 := by omega
    rcases this with rfl | rfl | rfl <;> rfl)
theorem row3_set1 (h : w.rowIs g t 3 (fn3 a b c)) (y : Value) : (w.setCell ⟨g, 1, none⟩ y).rowIs g t 3 (fn3 a y c) :=
  (h.set 1 y).congr (fun i hi => by
    have : i = 0 ∨ i = 1 ∨ i = 2 := by omega
    rcases this with rfl | rfl | rfl <;> rfl)
theorem pl_three (h : w.rowIs g t 3 (fn3 a b c)) : w.heap[g]? = some (.cells #[a, b, c] t (0, 0)) := by
  obtain ⟨cs, h1, h2, h3⟩ := h
  have e : cs = #[a, b, c] := by
    apply Array.ext (by simp [h2])
    intro i hi _
    have : i = 0 ∨ i = 1 ∨ i = 2 := by rw [h2] at hi; omega
    rcases this with rfl | rfl | rfl
    · have := h3 0 (by omega); rw [Array.getElem?_eq_getElem hi] at this; simpa [fn3] using this
    · have := h3 1 (by omega); rw [Array.getElem?_eq_getElem hi] at this; simpa [fn3] using this
    · have := h3 2 (by omega); rw [Array.getElem?_eq_getElem hi] at this; simpa [fn3] using this
  rw [← e]; exact h1
end
theorem grew_row {w w' : World} {g B b n : Nat} {t : TypeId} {f : Nat → Value} (h : w.rowIs b t n f) (hg : Grew g B w w') (hb : b < B) (hne : b ≠ g) : w'.rowIs b t n f := h.of_block (hg.block b hb hne)
theorem Grew.setCell {g B : Nat} {w w' : World} (h : Grew g B w w') {p : Addr} (hp : B ≤ p.block) (v : Value) : Grew g B w (w'.setCell p v) :=
  h.trans (Grew.of_below ((Below.refl _ _).setCell hp v))
theorem CurOk.setCell {w : World} {g B lim : Nat} (h : CurOk w g B lim) {p : Addr} (hp : B ≤ p.block) (v : Value) : CurOk (w.setCell p v) g B lim := h.below ((Below.refl _ _).setCell hp v)
theorem blks_grew {w w' : World} {g n : Nat} {A : Option Addr} {ts : List Blk} (h : BlksAt w w.heap.size A n ts) (hg : Grew g w.heap.size w w') (hf : ∀ ad, A = some ad → ad.block ≠ g) : BlksAt w' w'.heap.size A n ts :=
  ⟨h.1, fun k hk => by
    obtain ⟨b, off, e, hb, h1, h2⟩ := h.2 k hk
    have hne : b ≠ g := hf _ e
    exact ⟨b, off, e, Nat.lt_of_lt_of_le hb hg.size, (hg.cell (p := ⟨b, off + k * 2, none⟩) hb hne).trans h1, (hg.cell (p := ⟨b, off + k * 2 + 1, none⟩) hb hne).trans h2⟩⟩

theorem two_ints (w : World) (a b : Int) : IntsAt (w.alloc (.cells #[.int .i64 a, .int .i64 b] 3)) (w.alloc (.cells #[.int .i64 a, .int .i64 b] 3)).heap.size (some ⟨w.heap.size, 0, none⟩) 2 [a, b] := by
  have r := bx_row2 w (.int .i64 a) (.int .i64 b) 3
  refine ⟨rfl, fun k hk => ?_⟩
  have : k = 0 ∨ k = 1 := by omega
  rcases this with rfl | rfl
  · exact ⟨w.heap.size, 0, rfl, r.lt, by rw [Nat.zero_add]; exact row2_0 r⟩
  · exact ⟨w.heap.size, 0, rfl, r.lt, by rw [Nat.zero_add]; exact row2_1 r⟩
theorem three_intsV (w : World) (a b c : Int) : IntsAt (w.alloc (.cells #[.int .i64 a, .int .i64 b, .int .i64 c] 3)) (w.alloc (.cells #[.int .i64 a, .int .i64 b, .int .i64 c] 3)).heap.size (some ⟨w.heap.size, 0, none⟩) 3 [a, b, c] := by
  have r := bx_row3 w (.int .i64 a) (.int .i64 b) (.int .i64 c) 3
  refine ⟨rfl, fun k hk => ?_⟩
  have : k = 0 ∨ k = 1 ∨ k = 2 := by omega
  rcases this with rfl | rfl | rfl
  · exact ⟨w.heap.size, 0, rfl, r.lt, by rw [Nat.zero_add]; exact row3_0 r⟩
  · exact ⟨w.heap.size, 0, rfl, r.lt, by rw [Nat.zero_add]; exact row3_1 r⟩
  · exact ⟨w.heap.size, 0, rfl, r.lt, by rw [Nat.zero_add]; exact row3_2 r⟩
def VotePost (w : World) (g B lim : Nat) (e : Ending) (w' : World) : Prop :=
  ∃ x y z : Int, e = .returned (.agg #[.int .i64 x, .int .i64 y, .int .i64 z]) ∧ CurOk w' g B (lim + 20) ∧ Grew g w.heap.size w w'

set_option maxRecDepth 100000 in
set_option maxHeartbeats 6400000 in
theorem vote_any (g B lim : Nat) (A : Option Addr) (n c : Nat) (ts : List Blk) (many : Int) (w : World) (h : CurOk w g B lim) (hB : B ≤ w.heap.size) (hlim : lim ≤ 274877906944) (ht : BlksAt w w.heap.size A n ts) (hfar : ∀ ad, A = some ad → ad.block ≠ g) (hn : n ≤ 1048576) (hn1 : 0 < n) (hm : many ≤ 1048576) :
    Calls Try.prog 144 #[.pointer (some ⟨g, 0, none⟩), .slice A n c, .int .i64 many] w (VotePost w g B lim) := by
  have hgB := h.1
  have b0 := bx_below w (.cells #[.int .i64 0, .int .i64 0, .int .i64 0] 63)
  have rR := Lib.hid (bx_row3 w (.int .i64 0) (.int .i64 0) (.int .i64 0) 63)
  have cu := Lib.hid (h.below (b0.mono hB))
  have G := Lib.hid (show Grew g w.heap.size w _ from Grew.of_below b0)
  have hb := Lib.hid (ht.up b0)
  have hf := Lib.hid hfar
  have hs : w.heap.size + 1 ≤ (w.alloc (.cells #[.int .i64 0, .int .i64 0, .int .i64 0] 63)).heap.size := by simp
  clear h ht hfar b0
  go_enter Try.func144, Try.ntmps144
  go_wp2_with fail
  generalize w.alloc (.cells #[.int .i64 0, .int .i64 0, .int .i64 0] 63) = w0 at rR cu G hb hs ⊢
  refine (pick_any g B lim (n : Int) w0 cu.out (by omega) (by omega)).mono ?_
  rintro e w1 ⟨x, rfl, x0, x1, c1, o1⟩
  obtain ⟨k, rfl⟩ := Int.eq_ofNat_of_zero_le x0
  have hkn : k < n := by omega
  have gr1 := Grew.of_only (B := w0.heap.size) o1
  obtain ⟨tb, tf, rfl, htb, _, q1⟩ := (blks_grew hb.out gr1 hf.out).2 k hkn
  have hsz1 : w0.heap.size = w1.heap.size := o1.size.symm
  have htg : tb ≠ g := hf.out _ rfl
  replace rR := Lib.hid (grew_row rR.out gr1 (by omega) (by omega))
  replace G := Lib.hid (G.out.trans (gr1.mono (by omega)))
  replace cu := Lib.hid c1
  obtain ⟨sl, hsl⟩ : ∃ sl, sloZ ts k = sl := ⟨_, rfl⟩
  have hkI : (k : Int) < (n : Int) := by omega
  have q1' : ∃ sl : Int, w1.cell? ⟨tb, tf + k * 2 + 1, none⟩ = some (.int .i64 sl) := ⟨_, q1⟩
  obtain ⟨s1, q2⟩ := q1'
  clear x0 x1 c1 o1 gr1 hb q1 hsl sl
  have box0 := bx_below w1.drew (.cells #[.int .i64 0, .int .i64 0, .int .i64 0] 63)
  have kcell := Lib.hid (show ∀ W : World, Grew g w1.heap.size w1 W → W.cell? ⟨tb, tf + k * 2 + 1, none⟩ = some (.int .i64 s1) from fun W hW => (hW.cell (p := ⟨tb, tf + k * 2 + 1, none⟩) htb htg).trans q2)
  have z0 := kcell.out (w1.drew.alloc (.cells #[.int .i64 0, .int .i64 0, .int .i64 0] 63)) ⟨box0.os, box0.tape, box0.output, box0.size, fun j hj _ => box0.block j hj⟩
  have cuD := Lib.hid (show CurOk w1.drew g B (lim + 2) from cu.out)
  have cuE := Lib.hid (cuD.out.below (box0.mono (show B ≤ w1.drew.heap.size by show B ≤ w1.heap.size; omega)))
  have GE := Lib.hid (show Grew g w1.heap.size w1 (w1.drew.alloc (.cells #[.int .i64 0, .int .i64 0, .int .i64 0] 63)) from ⟨box0.os, box0.tape, box0.output, box0.size, fun j hj _ => box0.block j hj⟩)
  have rE := Lib.hid (show (w1.drew.alloc (.cells #[.int .i64 0, .int .i64 0, .int .i64 0] 63)).rowIs w1.heap.size 63 3 (fn3 (.int .i64 0) (.int .i64 0) (.int .i64 0)) from bx_row3 w1.drew _ _ _ _)
  have hBs : B ≤ w1.heap.size := by omega
  clear box0
  go_upto_region 2 with fail
  go_cut [8] from 13 to 25 (fun s wx => ∃ (pX : Nat) (x y z : Int), s = .pointer (some ⟨pX, 0, none⟩) ∧ Hid (wx.rowIs pX 63 3 (fn3 (.int .i64 x) (.int .i64 y) (.int .i64 z))) ∧ w1.heap.size ≤ pX ∧ Hid (CurOk wx g B (lim + 6)) ∧ Hid (Grew g w1.heap.size w1 wx))
  case first =>
    have tk0 : True := trivial
    go_region_held3 (fun w' => w'.cell? ⟨tb, tf + k * 2 + 1, none⟩ = some (.int .i64 s1)) (first | assumption | exact ks _ _ _ | exact kt _ _ _ | go_keep) (first
      | (clear tk0
         go_at_call 126
         refine (pick_any g B (lim + 2) _ _ cuD.out (by omega) (by first | decide | omega)).mono ?_
         rintro e w2 ⟨p, rfl, _, _, c2, o2⟩
         have g2 := Lib.hid (show Grew g w1.heap.size w1 w2 from ⟨o2.os, o2.tape, o2.output, Nat.le_of_eq o2.size.symm, fun j _ hj => o2.block j (fun ad e => by cases e; exact hj)⟩)
         have cu2 := Lib.hid c2
         have z1 := kcell.out w2 g2.out
         have b2 := bx_below w2 (.cells #[.int .i64 0, .int .i64 0, .int .i64 0] 63)
         have z2 := kcell.out (w2.alloc (.cells #[.int .i64 0, .int .i64 0, .int .i64 0] 63)) (g2.out.trans (Grew.of_below (b2.mono g2.out.size)))
         clear c2 o2 b2
         have tk1 : True := trivial)
      | (clear tk0
         go_at_call 126
         refine (pick_any g B (lim + 2) _ _ cuE.out (by omega) (by first | decide | omega)).mono ?_
         rintro e w2 ⟨p, rfl, _, _, c2, o2⟩
         have g2 := Lib.hid (GE.out.trans ⟨o2.os, o2.tape, o2.output, Nat.le_of_eq o2.size.symm, fun j _ hj => o2.block j (fun ad e => by cases e; exact hj)⟩)
         have cu2 := Lib.hid c2
         have zb := Lib.hid (rE.out.of_block (o2.block _ (fun ad e => by cases e; show w1.heap.size ≠ g; omega)))
         have z1 := kcell.out w2 g2.out
         clear c2 o2
         have tk1 : True := trivial)
      | (clear tk1
         go_at_call 126
         refine (pick_any g B (lim + 4) _ _ cu2.out (by omega) (by first | decide | omega)).mono ?_
         rintro e w3 ⟨q, rfl, _, _, c3, o3⟩
         have g3 := Lib.hid (g2.out.trans ⟨o3.os, o3.tape, o3.output, Nat.le_of_eq o3.size.symm, fun j _ hj => o3.block j (fun ad e => by cases e; exact hj)⟩)
         have cu3 := Lib.hid c3
         try replace zb := Lib.hid (zb.out.of_block (o3.block _ (fun ad e => by cases e; show w1.heap.size ≠ g; omega)))
         try have y0 := row3_0 zb.out
         try have y1 := row3_1 zb.out
         try have y2 := row3_2 zb.out
         try have f0 := zb.out.frozen 0
         try have f1 := zb.out.frozen 1
         try have f2 := zb.out.frozen 2
         have ks := fun x y z => kcell.out _ (((g3.out.setCell (p := ⟨w1.heap.size, 0, none⟩) (Nat.le_refl _) x).setCell (p := ⟨w1.heap.size, 1, none⟩) (Nat.le_refl _) y).setCell (p := ⟨w1.heap.size, 2, none⟩) (Nat.le_refl _) z)
         have z3 := kcell.out w3 g3.out
         have b3 := bx_below w3 (.cells #[.int .i64 0, .int .i64 0, .int .i64 0] 63)
         have z4 := kcell.out (w3.alloc (.cells #[.int .i64 0, .int .i64 0, .int .i64 0] 63)) (g3.out.trans (Grew.of_below (b3.mono g3.out.size)))
         clear c3 o3 b3)
      | (clear tk1
         go_at_call 126
         have b2 := bx_below w2 (.cells #[.int .i64 0, .int .i64 0, .int .i64 0] 63)
         have hs2 : w1.heap.size ≤ w2.heap.size := g2.out.size
         refine (pick_any g B (lim + 4) _ _ (cu2.out.below (b2.mono (by omega))) (by omega) (by first | decide | omega)).mono ?_
         rintro e w3 ⟨q, rfl, _, _, c3, o3⟩
         have g3 := Lib.hid ((g2.out.trans (Grew.of_below (b2.mono hs2))).trans ⟨o3.os, o3.tape, o3.output, Nat.le_of_eq o3.size.symm, fun j _ hj => o3.block j (fun ad e => by cases e; exact hj)⟩)
         have cu3 := Lib.hid c3
         have zc := Lib.hid ((bx_row3 w2 (.int .i64 0) (.int .i64 0) (.int .i64 0) 63).of_block (o3.block _ (fun ad e => by cases e; show w2.heap.size ≠ g; omega)))
         have y0 := row3_0 zc.out; have y1 := row3_1 zc.out; have y2 := row3_2 zc.out
         have f0 := zc.out.frozen 0; have f1 := zc.out.frozen 1; have f2 := zc.out.frozen 2
         have z3 := kcell.out w3 g3.out
         have kt := fun x y z => kcell.out _ (((g3.out.setCell (p := ⟨w2.heap.size, 0, none⟩) hs2 x).setCell (p := ⟨w2.heap.size, 1, none⟩) hs2 y).setCell (p := ⟨w2.heap.size, 2, none⟩) hs2 z)
         clear c3 o3 b2))
    all_goals
      go_wp2_with fail
      go_meet
      case rel => first
        | exact ⟨_, _, _, _, rfl, Lib.hid (bx_row3 w3 _ _ _ _), g3.out.size, Lib.hid (cu3.out.below ((bx_below w3 _).mono (Nat.le_trans hBs g3.out.size))), Lib.hid (g3.out.trans (Grew.of_below ((bx_below w3 _).mono g3.out.size)))⟩
        | exact ⟨_, _, _, _, rfl, Lib.hid (row3_set zb.out _ _ _), Nat.le_refl _, Lib.hid (((cu3.out.setCell (p := ⟨_, 0, none⟩) hBs _).setCell (p := ⟨_, 1, none⟩) hBs _).setCell (p := ⟨_, 2, none⟩) hBs _), Lib.hid (((g3.out.setCell (p := ⟨_, 0, none⟩) (Nat.le_refl _) _).setCell (p := ⟨_, 1, none⟩) (Nat.le_refl _) _).setCell (p := ⟨_, 2, none⟩) (Nat.le_refl _) _)⟩
        | exact ⟨_, _, _, _, rfl, Lib.hid (row3_set zc.out _ _ _), hs2, Lib.hid (((cu3.out.setCell (p := ⟨_, 0, none⟩) (Nat.le_trans hBs hs2) _).setCell (p := ⟨_, 1, none⟩) (Nat.le_trans hBs hs2) _).setCell (p := ⟨_, 2, none⟩) (Nat.le_trans hBs hs2) _), Lib.hid (((g3.out.setCell (p := ⟨_, 0, none⟩) hs2 _).setCell (p := ⟨_, 1, none⟩) hs2 _).setCell (p := ⟨_, 2, none⟩) hs2 _)⟩
  case rest =>
    obtain ⟨pX, x, y, z, rfl, rX, hpX, cuX, GX⟩ := hcut
    replace rR := Lib.hid (grew_row rR.out GX.out (by omega) (by omega))
    replace G := Lib.hid (G.out.trans (GX.out.mono (by omega)))
    have hne : pX ≠ w.heap.size := by omega
    have hpg : pX ≠ g := by omega
    have hwp : w.heap.size ≤ pX := by omega
    have hBp : B ≤ pX := by omega
    clear kcell z0 cuD cuE GE rE q2 GX cu
    have y1 := row3_1 rX.out
    have f1 := rX.out.frozen 1
    have hRg : w.heap.size ≠ g := by omega
    by_cases hy : y = 0
    · subst hy
      have rX2 := Lib.hid (row3_set1 rX.out (.int .i64 1))
      have cu2 := Lib.hid (cuX.out.setCell (p := ⟨pX, 1, none⟩) hBp (.int .i64 1))
      have rR2 := Lib.hid (rR.out.setOther (a := ⟨pX, 1, none⟩) (by show w.heap.size ≠ pX; omega) (.int .i64 1))
      have G2 := Lib.hid (G.out.setCell (p := ⟨pX, 1, none⟩) hwp (.int .i64 1))
      go_wp2_with fail
      obtain ⟨V, hV⟩ : ∃ V, wc.setCell ⟨pX, 1, none⟩ (.int .i64 1) = V := ⟨_, rfl⟩
      rw [hV] at rX2 cu2 rR2 G2
      try rw [hV]
      clear hV y1 f1 rX cuX rR G
      refine (one_any g B (lim + 6) 60 V cu2.out (by omega) (by decide)).mono ?_
      rintro e w4 ⟨b, rfl, c4, o4⟩
      have gr4 := Grew.of_only (B := (V).heap.size) o4
      have rX4 := Lib.hid (grew_row rX2.out gr4 rX2.out.lt hpg)
      have rR4 := Lib.hid (grew_row rR2.out gr4 rR2.out.lt hRg)
      have G4 := Lib.hid (G2.out.trans (gr4.mono G2.out.size))
      have cu4 := Lib.hid c4
      clear gr4 c4 o4 cu2 rX2 rR2 G2
      cases b
      · skip
        have a0 := row3_0 rX4.out; have a1 := row3_1 rX4.out; have a2 := row3_2 rX4.out
        have d0 := row3_0 rR4.out; have d1 := row3_1 rR4.out; have d2 := row3_2 rR4.out
        have e0 := rR4.out.frozen 0; have e1 := rR4.out.frozen 1; have e2 := rR4.out.frozen 2
        go_wp2_with fail
        refine bodyPost_ret (results_cell_row rfl _ _ w.heap.size 63 _ (0, 0) _ rfl (pl_three (row3_set rR4.out _ _ _)) Try.underlying63 rfl (by kernel_rfl)) rfl ?_
        exact ⟨_, _, _, rfl, (((cu4.out.setCell (p := ⟨w.heap.size, 0, none⟩) hB _).setCell (p := ⟨w.heap.size, 1, none⟩) hB _).setCell (p := ⟨w.heap.size, 2, none⟩) hB _).more (by omega), ((G4.out.setCell (p := ⟨w.heap.size, 0, none⟩) (Nat.le_refl _) _).setCell (p := ⟨w.heap.size, 1, none⟩) (Nat.le_refl _) _).setCell (p := ⟨w.heap.size, 2, none⟩) (Nat.le_refl _) _⟩
      · skip
        have bb5 := bx_below w4 (.cells #[.int .i64 (-1), .int .i64 9] 3)
        have rX5 := Lib.hid (rowIs_below rX4.out bb5 rX4.out.lt)
        have rR5 := Lib.hid (rowIs_below rR4.out bb5 rR4.out.lt)
        have G5 := Lib.hid (G4.out.trans (Grew.of_below (bb5.mono G4.out.size)))
        have hs5 : B ≤ (w4).heap.size := Nat.le_trans hB G4.out.size
        have cu5 := Lib.hid (cu4.out.below (bb5.mono hs5))
        have i5 := Lib.hid (two_ints w4 (-1) 9)
        have tk0 : True := trivial
        go_wp2_with (first
          | (clear tk0
             go_at_call 111
             refine (among_any g B (lim + 8) 2 2 _ (some ⟨w4.heap.size, 0, none⟩) [-1, 9] _ cu5.out (by omega) i5.out (by decide) (by decide) (fun ad e => by cases e; show w4.heap.size ≠ g; have := hs5; omega)).mono ?_
             rintro e w6 ⟨j6, _, rfl, c6, o6⟩
             have gr6 := Grew.of_only (B := (w4.alloc (.cells #[.int .i64 (-1), .int .i64 9] 3)).heap.size) o6
             have rX6 := Lib.hid (grew_row rX5.out gr6 rX5.out.lt hpg)
             have rR6 := Lib.hid (grew_row rR5.out gr6 rR5.out.lt hRg)
             have G6 := Lib.hid (G5.out.trans (gr6.mono G5.out.size))
             have cu6 := Lib.hid c6
             have bb7 := bx_below w6 (.cells #[.int .i64 0, .int .i64 4000, .int .i64 4001] 3)
             have rX7 := Lib.hid (rowIs_below rX6.out bb7 rX6.out.lt)
             have rR7 := Lib.hid (rowIs_below rR6.out bb7 rR6.out.lt)
             have G7 := Lib.hid (G6.out.trans (Grew.of_below (bb7.mono G6.out.size)))
             have hs7 : B ≤ (w6).heap.size := Nat.le_trans hB G6.out.size
             have cu7 := Lib.hid (cu6.out.below (bb7.mono hs7))
             have i7 := Lib.hid (three_intsV w6 0 4000 4001)
             clear gr6 c6 o6
             have tk1 : True := trivial)
          | (clear tk1
             go_at_call 111
             refine (among_any g B (lim + 10) 3 3 _ (some ⟨w6.heap.size, 0, none⟩) [0, 4000, 4001] _ cu7.out (by omega) i7.out (by decide) (by decide) (fun ad e => by cases e; show w6.heap.size ≠ g; have := hs7; omega)).mono ?_
             rintro e w8 ⟨j8, _, rfl, c8, o8⟩
             have gr8 := Grew.of_only (B := (w6.alloc (.cells #[.int .i64 0, .int .i64 4000, .int .i64 4001] 3)).heap.size) o8
             have rX8 := Lib.hid (grew_row rX7.out gr8 rX7.out.lt hpg)
             have rR8 := Lib.hid (grew_row rR7.out gr8 rR7.out.lt hRg)
             have G8 := Lib.hid (G7.out.trans (gr8.mono G7.out.size))
             have cu8 := Lib.hid c8
             clear gr8 c8 o8
             have tk2 : True := trivial)
          | (clear tk2
             go_at_call 126
             refine (pick_any g B (lim + 12) 30 _ cu8.out (by omega) (by decide)).mono ?_
             rintro e w9 ⟨q9, rfl, q0, _, c9, o9⟩
             have gr9 := Grew.of_only (B := (w8).heap.size) o9
             have rX9 := Lib.hid (grew_row rX8.out gr9 rX8.out.lt hpg)
             have rR9 := Lib.hid (grew_row rR8.out gr9 rR8.out.lt hRg)
             have G9 := Lib.hid (G8.out.trans (gr9.mono G8.out.size))
             have cu9 := Lib.hid c9
             have m0 := row3_0 rX9.out; have m1 := row3_1 rX9.out; have m2 := row3_2 rX9.out
             have n0 := rX9.out.frozen 0; have n1 := rX9.out.frozen 1; have n2 := rX9.out.frozen 2
             have U := Lib.hid (fun x y z => row3_set rX9.out x y z)
             have p0 := fun x y z => row3_0 (U.out x y z); have p1 := fun x y z => row3_1 (U.out x y z); have p2 := fun x y z => row3_2 (U.out x y z)
             have rS := Lib.hid (fun x y z => ((rR9.out.setOther (a := ⟨pX, 0, none⟩) (by show w.heap.size ≠ pX; omega) x).setOther (a := ⟨pX, 1, none⟩) (by show w.heap.size ≠ pX; omega) y).setOther (a := ⟨pX, 2, none⟩) (by show w.heap.size ≠ pX; omega) z)
             have d0 := fun x y z => row3_0 (rS.out x y z); have d1 := fun x y z => row3_1 (rS.out x y z); have d2 := fun x y z => row3_2 (rS.out x y z)
             have e0 := fun x y z => (rS.out x y z).frozen 0; have e1 := fun x y z => (rS.out x y z).frozen 1; have e2 := fun x y z => (rS.out x y z).frozen 2
             clear gr9 c9 o9))
        refine bodyPost_ret (results_cell_row rfl _ _ w.heap.size 63 _ (0, 0) _ rfl (pl_three (row3_set (rS.out _ _ _) _ _ _)) Try.underlying63 rfl (by kernel_rfl)) rfl ?_
        exact ⟨_, _, _, rfl, ((((((cu9.out.setCell (p := ⟨pX, 0, none⟩) hBp _).setCell (p := ⟨pX, 1, none⟩) hBp _).setCell (p := ⟨pX, 2, none⟩) hBp _).setCell (p := ⟨w.heap.size, 0, none⟩) hB _).setCell (p := ⟨w.heap.size, 1, none⟩) hB _).setCell (p := ⟨w.heap.size, 2, none⟩) hB _).more (by omega), (((((G9.out.setCell (p := ⟨pX, 0, none⟩) hwp _).setCell (p := ⟨pX, 1, none⟩) hwp _).setCell (p := ⟨pX, 2, none⟩) hwp _).setCell (p := ⟨w.heap.size, 0, none⟩) (Nat.le_refl _) _).setCell (p := ⟨w.heap.size, 1, none⟩) (Nat.le_refl _) _).setCell (p := ⟨w.heap.size, 2, none⟩) (Nat.le_refl _) _⟩
    · have hyb : (y == 0) = false := by simp [hy]
      have rX2 := rX; have cu2 := cuX; have rR2 := rR; have G2 := G
      go_wp2_with fail
      obtain ⟨V, hV⟩ : ∃ V, wc = V := ⟨_, rfl⟩
      subst hV
      clear y1 f1 rX cuX rR G hyb hy
      refine (one_any g B (lim + 6) 60 wc cu2.out (by omega) (by decide)).mono ?_
      rintro e w4 ⟨b, rfl, c4, o4⟩
      have gr4 := Grew.of_only (B := (wc).heap.size) o4
      have rX4 := Lib.hid (grew_row rX2.out gr4 rX2.out.lt hpg)
      have rR4 := Lib.hid (grew_row rR2.out gr4 rR2.out.lt hRg)
      have G4 := Lib.hid (G2.out.trans (gr4.mono G2.out.size))
      have cu4 := Lib.hid c4
      clear gr4 c4 o4 cu2 rX2 rR2 G2
      cases b
      · skip
        have a0 := row3_0 rX4.out; have a1 := row3_1 rX4.out; have a2 := row3_2 rX4.out
        have d0 := row3_0 rR4.out; have d1 := row3_1 rR4.out; have d2 := row3_2 rR4.out
        have e0 := rR4.out.frozen 0; have e1 := rR4.out.frozen 1; have e2 := rR4.out.frozen 2
        go_wp2_with fail
        refine bodyPost_ret (results_cell_row rfl _ _ w.heap.size 63 _ (0, 0) _ rfl (pl_three (row3_set rR4.out _ _ _)) Try.underlying63 rfl (by kernel_rfl)) rfl ?_
        exact ⟨_, _, _, rfl, (((cu4.out.setCell (p := ⟨w.heap.size, 0, none⟩) hB _).setCell (p := ⟨w.heap.size, 1, none⟩) hB _).setCell (p := ⟨w.heap.size, 2, none⟩) hB _).more (by omega), ((G4.out.setCell (p := ⟨w.heap.size, 0, none⟩) (Nat.le_refl _) _).setCell (p := ⟨w.heap.size, 1, none⟩) (Nat.le_refl _) _).setCell (p := ⟨w.heap.size, 2, none⟩) (Nat.le_refl _) _⟩
      · skip
        have bb5 := bx_below w4 (.cells #[.int .i64 (-1), .int .i64 9] 3)
        have rX5 := Lib.hid (rowIs_below rX4.out bb5 rX4.out.lt)
        have rR5 := Lib.hid (rowIs_below rR4.out bb5 rR4.out.lt)
        have G5 := Lib.hid (G4.out.trans (Grew.of_below (bb5.mono G4.out.size)))
        have hs5 : B ≤ (w4).heap.size := Nat.le_trans hB G4.out.size
        have cu5 := Lib.hid (cu4.out.below (bb5.mono hs5))
        have i5 := Lib.hid (two_ints w4 (-1) 9)
        have tk0 : True := trivial
        go_wp2_with (first
          | (clear tk0
             go_at_call 111
             refine (among_any g B (lim + 8) 2 2 _ (some ⟨w4.heap.size, 0, none⟩) [-1, 9] _ cu5.out (by omega) i5.out (by decide) (by decide) (fun ad e => by cases e; show w4.heap.size ≠ g; have := hs5; omega)).mono ?_
             rintro e w6 ⟨j6, _, rfl, c6, o6⟩
             have gr6 := Grew.of_only (B := (w4.alloc (.cells #[.int .i64 (-1), .int .i64 9] 3)).heap.size) o6
             have rX6 := Lib.hid (grew_row rX5.out gr6 rX5.out.lt hpg)
             have rR6 := Lib.hid (grew_row rR5.out gr6 rR5.out.lt hRg)
             have G6 := Lib.hid (G5.out.trans (gr6.mono G5.out.size))
             have cu6 := Lib.hid c6
             have bb7 := bx_below w6 (.cells #[.int .i64 0, .int .i64 4000, .int .i64 4001] 3)
             have rX7 := Lib.hid (rowIs_below rX6.out bb7 rX6.out.lt)
             have rR7 := Lib.hid (rowIs_below rR6.out bb7 rR6.out.lt)
             have G7 := Lib.hid (G6.out.trans (Grew.of_below (bb7.mono G6.out.size)))
             have hs7 : B ≤ (w6).heap.size := Nat.le_trans hB G6.out.size
             have cu7 := Lib.hid (cu6.out.below (bb7.mono hs7))
             have i7 := Lib.hid (three_intsV w6 0 4000 4001)
             clear gr6 c6 o6
             have tk1 : True := trivial)
          | (clear tk1
             go_at_call 111
             refine (among_any g B (lim + 10) 3 3 _ (some ⟨w6.heap.size, 0, none⟩) [0, 4000, 4001] _ cu7.out (by omega) i7.out (by decide) (by decide) (fun ad e => by cases e; show w6.heap.size ≠ g; have := hs7; omega)).mono ?_
             rintro e w8 ⟨j8, _, rfl, c8, o8⟩
             have gr8 := Grew.of_only (B := (w6.alloc (.cells #[.int .i64 0, .int .i64 4000, .int .i64 4001] 3)).heap.size) o8
             have rX8 := Lib.hid (grew_row rX7.out gr8 rX7.out.lt hpg)
             have rR8 := Lib.hid (grew_row rR7.out gr8 rR7.out.lt hRg)
             have G8 := Lib.hid (G7.out.trans (gr8.mono G7.out.size))
             have cu8 := Lib.hid c8
             clear gr8 c8 o8
             have tk2 : True := trivial)
          | (clear tk2
             go_at_call 126
             refine (pick_any g B (lim + 12) 30 _ cu8.out (by omega) (by decide)).mono ?_
             rintro e w9 ⟨q9, rfl, q0, _, c9, o9⟩
             have gr9 := Grew.of_only (B := (w8).heap.size) o9
             have rX9 := Lib.hid (grew_row rX8.out gr9 rX8.out.lt hpg)
             have rR9 := Lib.hid (grew_row rR8.out gr9 rR8.out.lt hRg)
             have G9 := Lib.hid (G8.out.trans (gr9.mono G8.out.size))
             have cu9 := Lib.hid c9
             have m0 := row3_0 rX9.out; have m1 := row3_1 rX9.out; have m2 := row3_2 rX9.out
             have n0 := rX9.out.frozen 0; have n1 := rX9.out.frozen 1; have n2 := rX9.out.frozen 2
             have U := Lib.hid (fun x y z => row3_set rX9.out x y z)
             have p0 := fun x y z => row3_0 (U.out x y z); have p1 := fun x y z => row3_1 (U.out x y z); have p2 := fun x y z => row3_2 (U.out x y z)
             have rS := Lib.hid (fun x y z => ((rR9.out.setOther (a := ⟨pX, 0, none⟩) (by show w.heap.size ≠ pX; omega) x).setOther (a := ⟨pX, 1, none⟩) (by show w.heap.size ≠ pX; omega) y).setOther (a := ⟨pX, 2, none⟩) (by show w.heap.size ≠ pX; omega) z)
             have d0 := fun x y z => row3_0 (rS.out x y z); have d1 := fun x y z => row3_1 (rS.out x y z); have d2 := fun x y z => row3_2 (rS.out x y z)
             have e0 := fun x y z => (rS.out x y z).frozen 0; have e1 := fun x y z => (rS.out x y z).frozen 1; have e2 := fun x y z => (rS.out x y z).frozen 2
             clear gr9 c9 o9))
        refine bodyPost_ret (results_cell_row rfl _ _ w.heap.size 63 _ (0, 0) _ rfl (pl_three (row3_set (rS.out _ _ _) _ _ _)) Try.underlying63 rfl (by kernel_rfl)) rfl ?_
        exact ⟨_, _, _, rfl, ((((((cu9.out.setCell (p := ⟨pX, 0, none⟩) hBp _).setCell (p := ⟨pX, 1, none⟩) hBp _).setCell (p := ⟨pX, 2, none⟩) hBp _).setCell (p := ⟨w.heap.size, 0, none⟩) hB _).setCell (p := ⟨w.heap.size, 1, none⟩) hB _).setCell (p := ⟨w.heap.size, 2, none⟩) hB _).more (by omega), (((((G9.out.setCell (p := ⟨pX, 0, none⟩) hwp _).setCell (p := ⟨pX, 1, none⟩) hwp _).setCell (p := ⟨pX, 2, none⟩) hwp _).setCell (p := ⟨w.heap.size, 0, none⟩) (Nat.le_refl _) _).setCell (p := ⟨w.heap.size, 1, none⟩) (Nat.le_refl _) _).setCell (p := ⟨w.heap.size, 2, none⟩) (Nat.le_refl _) _⟩
end Go.Proofs.Ythiegfbdmmpabaa

/- What is proved here: what the model's draws of votes and pools return: some votes, at most 90 and 61. No conditions beside that the cursor is one. -/
namespace Go.Proofs.Ythiegfbdmmpabaa
open Go.RowKit

theorem owns_grew {w w' : World} {base g : Nat} {e : TypeId} {size : Nat} {v : Value} {n : Nat} {xs : List Value} (h : w.ownsRow base e size v n xs) (hg : Grew g w.heap.size w w') (hb : g < base) : w'.ownsRow base e size v n xs := by
  obtain ⟨hl, hh⟩ := h
  refine ⟨hl, ?_⟩
  rcases hh with h | ⟨g', cap, cur, e, hB, hblk, hn, hm, hc, ht⟩
  · exact .inl h
  · exact .inr ⟨g', cap, cur, e, hB, (hg.block g' (Array.getElem?_eq_some_iff.1 hblk).1 (by omega)).trans hblk, hn, hm, hc, ht⟩
theorem ints_grew {w w' : World} {g n : Nat} {A : Option Addr} {xs : List Int} (h : IntsAt w w.heap.size A n xs) (hg : Grew g w.heap.size w w') (hf : ∀ ad, A = some ad → ad.block ≠ g) : IntsAt w' w'.heap.size A n xs :=
  ⟨h.1, fun k hk => by
    obtain ⟨b, off, e, hb, h1⟩ := h.2 k hk
    have h2 : b ≠ g := hf _ e
    exact ⟨b, off, e, Nat.lt_of_lt_of_le hb hg.size, (hg.cell (p := ⟨b, off + k, none⟩) hb h2).trans h1⟩⟩
def VotesPost (w : World) (g B lim : Nat) (e : Ending) (w' : World) : Prop :=
  ∃ A n c vs, e = .returned (.slice A n c) ∧ OwnV w' w.heap.size A n vs ∧ n ≤ 90 ∧ n ≤ c ∧ (A = none → n = 0 ∧ c = 0) ∧ CurOk w' g B (lim + 2000) ∧ Grew g w.heap.size w w'

set_option maxRecDepth 100000 in
set_option maxHeartbeats 1600000 in
theorem votes_any (g B lim : Nat) (A : Option Addr) (n c : Nat) (ts : List Blk) (many : Int) (w : World) (h : CurOk w g B lim) (hB : B ≤ w.heap.size) (hlim : lim ≤ 137438953472) (ht : BlksAt w w.heap.size A n ts) (hfar : ∀ ad, A = some ad → ad.block ≠ g) (hn : n ≤ 1048576) (hn1 : 0 < n) (hm : many ≤ 1048576) :
    Calls Try.prog 136 #[.pointer (some ⟨g, 0, none⟩), .slice A n c, .int .i64 many] w (VotesPost w g B lim) := by
  have hgB := h.1
  have h' := Lib.hid h; have hb := Lib.hid ht; have hf := Lib.hid hfar
  clear h ht hfar
  go_enter Try.func136, Try.ntmps136
  go_wp2_with fail
  refine (pick_any g B lim 14 w h'.out (by omega) (by decide)).mono ?_
  rintro e w1 ⟨x, rfl, x0, x1, c1, o1⟩
  have cu1 := Lib.hid c1
  have G1 := Lib.hid (Grew.of_only (B := w.heap.size) o1)
  have hx : 0 ≤ x ∧ x ≤ 90 := by omega
  clear x0 x1 c1 o1 h'
  go_wp2_with fail
  refine (one_any g B (lim + 2) 30 w1 cu1.out (by omega) (by decide)).mono ?_
  rintro e w2 ⟨b, rfl, c2, o2⟩
  have cu2 := Lib.hid c2
  have G2 := Lib.hid (G1.out.trans (Grew.of_only (B := w.heap.size) o2))
  clear c2 o2 cu1 G1
  obtain ⟨j0, hj0, hj90⟩ : ∃ j : Nat, (if b = true then (90 : Int) else x) = (j : Int) ∧ j ≤ 90 := by
    cases b
    · exact ⟨x.toNat, by rw [if_neg (by decide)]; omega, by omega⟩
    · exact ⟨90, rfl, Nat.le_refl _⟩
  cases b
  all_goals
    simp only [if_true, if_false, Bool.false_eq_true] at hj0
    go_wp2_with fail
    go_loopw [7, 8] (fun l m wr => ∃ (j k : Nat) (vs : List Vt), m = .int .i64 j ∧ j + k ≤ 90 ∧ vs.length = k ∧ Hid (wr.ownsRow w.heap.size 63 3 l k (flatV vs)) ∧ Hid (CurOk wr g B (lim + 4 + 20 * k)) ∧ Hid (Grew g w.heap.size w wr)) (fun _ m _ => (intOf m).toNat)
    case atStart => exact ⟨j0, 0, [], (by first | rfl | rw [hj0] | exact ret_int hj0), by omega, rfl, Lib.hid (World.ownsRow_nil _ _ _ _), cu2, G2⟩
    case round =>
      obtain ⟨j, k, vs, rfl, hjk, hvl, ho, hc, hg⟩ := hrel
      have hsz := hg.out.size
      by_cases hj : 0 < j
      · have hj' : (0 : Int) < (j : Int) := by omega
        have hbr := Lib.hid (blks_grew hb.out hg.out hf.out)
        have ho0 := Lib.hid (show wr.ownsRow w.heap.size 63 3 u7 k (flatV vs) from ho.out)
        clear hj0 ho
        go_wp2_with fail
        refine (vote_any g B (lim + 4 + 20 * k) A n c ts many wr hc.out (by omega) (by omega) hbr.out hf.out hn hn1 hm).mono ?_
        rintro e w3 ⟨v1, v2, v3, rfl, c3, g3⟩
        have hsz3 := g3.size
        have ho3 := Lib.hid (owns_grew ho0.out g3 (by omega))
        have hg3 := Lib.hid (hg.out.trans (g3.mono hsz))
        have hc3 := Lib.hid c3
        have hb3 := three_cells w3 v1 v2 v3 63
        have k0 := hb3.cell (i := 0) (by omega)
        have k1 := hb3.cell (i := 1) (by omega)
        have k2 := hb3.cell (i := 2) (by omega)
        simp only [if_true, if_false, show (1 : Nat) ≠ 0 by decide, show (2 : Nat) ≠ 0 by decide, show (2 : Nat) ≠ 1 by decide] at k0 k1 k2
        have K0 := Lib.hid k0; have K1 := Lib.hid k1; have K2 := Lib.hid k2
        have hvl' := Lib.hid hvl
        clear c3 g3 ho0 hg hc hbr hb3 k0 k1 k2
        subst hvl
        go_wp2_with (at_builtin; refine appendVt _ rfl _ _ 53 rfl w.heap.size Try.underlying53 _ vs rfl (ho3.out.alloc _) w3.heap.size 1 v1 v2 v3 rfl K0.out K1.out K2.out (by omega) (by simp; omega) ?_; intro g4 c4 w4 r1 r2 r3; have z1 := Lib.hid r1; have z2 := Lib.hid r2; clear r1 r2 r3)
        have hb4 : Below w.heap.size w3 w4 := ((Below.refl w.heap.size w3).alloc (by omega) (.cells #[.int .i64 v1, .int .i64 v2, .int .i64 v3] 63)).grown z2.out (by simp; omega) (fun q e => ((ho3.out.alloc (.cells #[.int .i64 v1, .int .i64 v2, .int .i64 v3] 63)).lt q e).1)
        have hg4 := Lib.hid (hg3.out.trans (Grew.of_below hb4))
        have hc4 := Lib.hid (hc3.out.below (hb4.mono hB))
        clear hb4 hc3 hg3 ho3
        go_roundw
        case rel => exact ⟨j - 1, vs.length + 1, vs ++ [(v1, v2, v3)], (by first | go_num | (rw [show ((j : Int) - 1) = ((j - 1 : Nat) : Int) by omega])), by omega, by simp, Lib.hid (by simpa using z1.out), Lib.hid (hc4.out.more (by omega)), hg4⟩
        case measure => simp [intOf]; omega
      · have hj' : ¬ (0 : Int) < (j : Int) := by omega
        have ho' := ho.out
        subst hvl
        obtain ⟨A6, c6, e6, o6⟩ := OwnV.of_owns ho'
        have hcap := own_cap ho' e6
        have e6' := Lib.hid e6; have o6' := Lib.hid o6; have hcap' := Lib.hid hcap
        clear e6 o6 hcap ho' hj0
        go_wp2_with fail
        go_ret
        exact ⟨A6, _, c6, vs, (show Ending.returned u7 = _ by rw [e6'.out]), o6'.out, by omega, hcap'.out.1, hcap'.out.2, hc.out.more (by omega), hg.out⟩
end Go.Proofs.Ythiegfbdmmpabaa

/- What is proved here: what the model's l6Tell and PoolOf return, with the room of the slice that they hand back. No conditions but lengths. Written by mk/mkpoolown.py. -/
namespace Go.Proofs.Ythiegfbdmmpabaa
open Go.RowKit

theorem owns_belowW {w w' : World} {base : Nat} {e : TypeId} {size : Nat} {v : Value} {n : Nat} {xs : List Value} (h : w.ownsRow base e size v n xs) (hb : Below w.heap.size w w') : w'.ownsRow base e size v n xs := by
  obtain ⟨hl, hh⟩ := h
  refine ⟨hl, ?_⟩
  rcases hh with h | ⟨g', cap, cur, e, hB, hblk, hn, hm, hc, ht⟩
  · exact .inl h
  · exact .inr ⟨g', cap, cur, e, hB, (hb.block g' (Array.getElem?_eq_some_iff.1 hblk).1).trans hblk, hn, hm, hc, ht⟩
theorem owns_less {w : World} {base base' : Nat} {e : TypeId} {size : Nat} {v : Value} {n : Nat} {xs : List Value} (h : w.ownsRow base e size v n xs) (hb : base' ≤ base) : w.ownsRow base' e size v n xs := by
  obtain ⟨hl, hh⟩ := h
  refine ⟨hl, ?_⟩
  rcases hh with h | ⟨g', cap, cur, e, hB, hblk, hn, hm, hc, ht⟩
  · exact .inl h
  · exact .inr ⟨g', cap, cur, e, Nat.le_trans hb hB, hblk, hn, hm, hc, ht⟩
theorem owns_setW {w : World} {base : Nat} {e : TypeId} {size : Nat} {v : Value} {n : Nat} {xs : List Value} (h : w.ownsRow base e size v n xs) {g : Nat} (hg : g < base) (u : Value) : (w.setCell ⟨g, 0, none⟩ u).ownsRow base e size v n xs := by
  obtain ⟨h1, h2⟩ := h
  refine ⟨h1, ?_⟩
  rcases h2 with h2 | ⟨g', cap, cur, q1, q2, q3, q4⟩
  · exact .inl h2
  · exact .inr ⟨g', cap, cur, q1, q2, (Below.heap_setCell w ⟨g, 0, none⟩ u g' (by show g' ≠ g; omega)).trans q3, q4⟩
/-- A pool of a call's own, with its room. -/
def RetPoolW (w : World) (b : Bool) (vs : List Vt) (e : Ending) (w' : World) : Prop :=
  ∃ A n c, e = .returned (.tuple #[.agg #[.slice A n c], .bool b]) ∧ w'.ownsRow w.heap.size 63 3 (.slice A n c) n (flatV vs) ∧ Below w.heap.size w w'
set_option maxRecDepth 100000 in
set_option maxHeartbeats 1600000 in
theorem l6TellW_any (A : Option Addr) (n c : Nat) (ts : List Blk) (A' : Option Addr) (n' c' : Nat) (ss : List Int) (V : Option Addr) (m d : Nat) (vs : List Vt) (w : World) (h : BlksAt w w.heap.size A n ts) (h' : IntsAt w w.heap.size A' n' ss) (hv : VotesAt w w.heap.size V m vs) (hn : n ≤ 1048576) (hn' : n' ≤ 1048576) (hm : m ≤ 1048576) (hnil : V = none → m = 0 ∧ d = 0) :
    Calls Try.prog 139 #[.slice A n c, .slice A' n' c', .slice V m d] w (RetPoolW w (poolOk ts ss vs) (tellR ts ss vs)) := by
  have hlv := Lib.hid hv.1
  have hh := Lib.hid h; have hh' := Lib.hid h'; have hvv := Lib.hid hv; have hnil' := Lib.hid hnil; clear h h' hv hnil
  obtain ⟨rR, bW, sW⟩ := bx1_rows w (.slice none 0 0) 55
  have qR := Lib.hid rR; have u := Lib.hid bW
  have s0 := Lib.hid (World.ownsRow_made (base := w.heap.size + 1) (e := 63) (size := 3) (w.alloc (.cells #[.slice none 0 0] 55)) #[] 0 (Nat.le_of_eq sW.symm) (by decide) rfl)
  have u0 := Lib.hid (bW.trans ((bx_below (w.alloc (.cells #[.slice none 0 0] 55)) (.cells #[] 63)).mono bW.size))
  have hcl := Lib.hid (show ∀ ad, V = some ad → ∀ t, t < m * 3 → ∀ W', Below w.heap.size w W' → W'.cell? (ad.add t) = some (cellsV vs t) from fun ad e0 t ht W' hb => by
    obtain ⟨b', off', e, hbl, _⟩ := hvv.out.2 0 (by omega)
    rw [e0] at e
    cases e
    have h1 := hvv.out
    rw [e0] at h1
    rw [Addr.add_lit]
    exact (hb.cell (p := ⟨b', off' + t, none⟩) hbl).trans (votes_cell h1 ht))
  rw [sW] at s0
  clear rR bW sW
  cases hg : poolOk ts ss vs
  · have hr := Lib.hid (show tellR ts ss vs = [] by unfold tellR; rw [if_neg (by rw [hg]; decide)])
    go_enter Try.func139, Try.ntmps139
    go_wp2_with (first
      | (at_builtin
         refine appendSlV _ rfl (.tmp 9) (.tmp 10) 53 rfl (w.heap.size + 1) Try.underlying53 _ [] rfl s0.out V m d vs hlv.out rfl hnil'.out (fun ad e t ht => hcl.out ad e t ht _ u0.out) (by simp; omega) (by simp) ?_
         intro v1 w1 o1 g1 a1
         have f1 : Below (w.heap.size + 1) (w.alloc (.cells #[.slice none 0 0] 55)) w1 := (((Below.refl (w.heap.size + 1) (w.alloc (.cells #[.slice none 0 0] 55))).alloc (by simp) (.cells #[] 63)).grown g1 (by simp) (fun q e => by cases e; exact Nat.le_refl _))
         rw [List.nil_append] at o1
         obtain ⟨A1, c1, e1, p1⟩ := OwnV.of_owns o1
         have o1c := o1
         rw [e1] at o1c
         obtain ⟨L, hL⟩ : ∃ L, vs.length = L := ⟨_, rfl⟩
         rw [hL] at e1 p1 o1c
         have hLm : L ≤ 1048576 := (by rw [← hL, hlv.out]; exact hm)
         subst e1
         have kk := bx_below w1 (.cells #[.slice A1 L c1] 55)
         have fs : (w.alloc (.cells #[.slice none 0 0] 55)).heap.size ≤ w1.heap.size := f1.size
         have hlt1 : w.heap.size + 1 ≤ w1.heap.size := (by simpa using fs)
         have x1 := Lib.hid (bx_row w1 (.slice A1 L c1) 55)
         have hx1 := x1.out.cell (i := 0) (by omega)
         have p1' := Lib.hid (p1.below kk)
         have w1o := Lib.hid (owns_belowW o1c kk)
         replace qR := Lib.hid (rowIs_below (rowIs_below qR.out f1 (Nat.lt_succ_self _)) kk (by omega))
         replace u := Lib.hid (u.out.trans ((f1.trans (kk.mono hlt1)).mono (Nat.le_succ _)))
         clear o1 o1c g1 a1 p1 kk fs f1 hL)
      | (go_at_call 112; refine (specGoodPool_any A n c ts A' n' c' ss A1 L c1 vs _ (hh.out.up u.out) (hh'.out.up' u.out) p1'.out.votes hn hn' hLm).mono ?_; rintro e w2 ⟨rfl, b2⟩; rw [hg]; have p2 := Lib.hid (p1'.out.below b2); have w2o := Lib.hid (owns_belowW w1o.out b2); replace u := Lib.hid (u.out.trans (b2.mono u.out.size)); replace qR := Lib.hid (rowIs_below qR.out b2 qR.out.lt); replace x1 := Lib.hid (rowIs_below x1.out b2 x1.out.lt); clear b2 hx1; have hcR := qR.out.cell (i := 0) (by omega); have hfR := qR.out.frozen 0))
    refine bodyPost_ret (results_row2 rfl _ _ (w.heap.size) 55 #[.slice none 0 0] (0, 0) _ rfl (pl_one_set qR.out _) Try.underlying55 rfl (by kernel_rfl)) rfl ?_
    exact ⟨none, 0, 0, rfl, by rw [hr.out]; exact World.ownsRow_nil _ _ _ _, u.out.setCell (by show w.heap.size ≤ w.heap.size; omega) _⟩
  · have hr := Lib.hid (show tellR ts ss vs = vs by unfold tellR; rw [if_pos hg])
    go_enter Try.func139, Try.ntmps139
    go_wp2_with (first
      | (at_builtin
         refine appendSlV _ rfl (.tmp 9) (.tmp 10) 53 rfl (w.heap.size + 1) Try.underlying53 _ [] rfl s0.out V m d vs hlv.out rfl hnil'.out (fun ad e t ht => hcl.out ad e t ht _ u0.out) (by simp; omega) (by simp) ?_
         intro v1 w1 o1 g1 a1
         have f1 : Below (w.heap.size + 1) (w.alloc (.cells #[.slice none 0 0] 55)) w1 := (((Below.refl (w.heap.size + 1) (w.alloc (.cells #[.slice none 0 0] 55))).alloc (by simp) (.cells #[] 63)).grown g1 (by simp) (fun q e => by cases e; exact Nat.le_refl _))
         rw [List.nil_append] at o1
         obtain ⟨A1, c1, e1, p1⟩ := OwnV.of_owns o1
         have o1c := o1
         rw [e1] at o1c
         obtain ⟨L, hL⟩ : ∃ L, vs.length = L := ⟨_, rfl⟩
         rw [hL] at e1 p1 o1c
         have hLm : L ≤ 1048576 := (by rw [← hL, hlv.out]; exact hm)
         subst e1
         have kk := bx_below w1 (.cells #[.slice A1 L c1] 55)
         have fs : (w.alloc (.cells #[.slice none 0 0] 55)).heap.size ≤ w1.heap.size := f1.size
         have hlt1 : w.heap.size + 1 ≤ w1.heap.size := (by simpa using fs)
         have x1 := Lib.hid (bx_row w1 (.slice A1 L c1) 55)
         have hx1 := x1.out.cell (i := 0) (by omega)
         have p1' := Lib.hid (p1.below kk)
         have w1o := Lib.hid (owns_belowW o1c kk)
         replace qR := Lib.hid (rowIs_below (rowIs_below qR.out f1 (Nat.lt_succ_self _)) kk (by omega))
         replace u := Lib.hid (u.out.trans ((f1.trans (kk.mono hlt1)).mono (Nat.le_succ _)))
         clear o1 o1c g1 a1 p1 kk fs f1 hL)
      | (go_at_call 112; refine (specGoodPool_any A n c ts A' n' c' ss A1 L c1 vs _ (hh.out.up u.out) (hh'.out.up' u.out) p1'.out.votes hn hn' hLm).mono ?_; rintro e w2 ⟨rfl, b2⟩; rw [hg]; have p2 := Lib.hid (p1'.out.below b2); have w2o := Lib.hid (owns_belowW w1o.out b2); replace u := Lib.hid (u.out.trans (b2.mono u.out.size)); replace qR := Lib.hid (rowIs_below qR.out b2 qR.out.lt); replace x1 := Lib.hid (rowIs_below x1.out b2 x1.out.lt); clear b2 hx1; have hx1 := x1.out.cell (i := 0) (by omega); have hcR := qR.out.cell (i := 0) (by omega); have hfR := qR.out.frozen 0))
    refine bodyPost_ret (results_row2 rfl _ _ (w.heap.size) 55 #[.slice A1 L c1] (0, 0) _ rfl (pl_one_set qR.out _) Try.underlying55 rfl (by kernel_rfl)) rfl ?_
    exact ⟨A1, L, c1, rfl, by rw [hr.out]; exact owns_less (owns_setW w2o.out (Nat.lt_succ_self _) _) (Nat.le_succ _), u.out.setCell (by show w.heap.size ≤ w.heap.size; omega) _⟩

set_option maxRecDepth 100000 in
set_option maxHeartbeats 1600000 in
theorem specPoolOfW_any (A : Option Addr) (n c : Nat) (ts : List Blk) (A' : Option Addr) (n' c' : Nat) (ss : List Int) (V : Option Addr) (m d : Nat) (vs : List Vt) (w : World) (h : BlksAt w w.heap.size A n ts) (h' : IntsAt w w.heap.size A' n' ss) (hv : VotesAt w w.heap.size V m vs) (hn : n ≤ 1048576) (hn' : n' ≤ 1048576) (hm : m ≤ 1048576) :
    Calls Try.prog 71 #[.slice A n c, .slice A' n' c', .slice V m d] w (RetPoolW w (pofOK ts ss vs) (pofR ts ss vs)) := by
  have hlv := Lib.hid hv.1
  have hh := Lib.hid h; have hh' := Lib.hid h'; have hvv := Lib.hid hv; clear h h' hv
  obtain ⟨rR, bW, sW⟩ := bx1_rows w (.slice none 0 0) 55
  have qR := Lib.hid rR; have u := Lib.hid bW
  have hset := Lib.hid (show allV [] vs m = setV vs by unfold setV; rw [hlv.out])
  have hsl := Lib.hid (setV_len vs)
  have hok := Lib.hid (pool_set ts ss vs)
  have htl := Lib.hid (tell_set ts ss vs)
  clear rR bW sW
  go_enter Try.func71, Try.ntmps71
  go_wp2_with (first
    | (go_at_call 140; refine (l6All_any none 0 0 [] V m d vs _ VotesAt.nil (hvv.out.up u.out) (by omega) (Nat.le_refl _) (fun _ => ⟨rfl, rfl⟩)).mono ?_; rw [hset.out]; rintro e w1 ⟨A1, n1, c1, rfl, v1, cap1, nil1, b1⟩; have z1 := Lib.hid v1; have y1 := Lib.hid nil1; replace u := Lib.hid (u.out.trans (b1.mono u.out.size)); replace qR := Lib.hid (rowIs_below qR.out b1 qR.out.lt); clear v1 nil1 b1)
    | (go_at_call 139; refine (l6TellW_any A n c ts A' n' c' ss A1 n1 c1 (setV vs) _ (hh.out.up u.out) (hh'.out.up' u.out) z1.out hn hn' (by have := z1.out.1; have := hsl.out; have := hlv.out; omega) y1.out).mono ?_; rw [hok.out, htl.out]; rintro e w2 ⟨A2, n2, c2, rfl, o2, b2⟩; have o2' := Lib.hid o2; have lR := Lib.hid qR.out.lt; replace u := Lib.hid (u.out.trans (b2.mono u.out.size)); replace qR := Lib.hid (rowIs_below qR.out b2 qR.out.lt); clear o2 b2; have hcR := qR.out.cell (i := 0) (by omega); have hfR := qR.out.frozen 0))
  refine bodyPost_ret (results_row2 rfl _ _ (w.heap.size) 55 #[.slice A2 n2 c2] (0, 0) _ rfl (pl_one_set qR.out _) Try.underlying55 rfl (by kernel_rfl)) rfl ?_
  exact ⟨A2, n2, c2, rfl, owns_less (owns_setW o2'.out lR.out _) (by have := lR.out; omega), u.out.setCell (by show w.heap.size ≤ w.heap.size; omega) _⟩
end Go.Proofs.Ythiegfbdmmpabaa

/- What is proved here: what the model's draw of a pool returns: some votes, at most 100. No conditions beside that the cursor is one. -/
namespace Go.Proofs.Ythiegfbdmmpabaa
open Go.RowKit

theorem row_one_ofP {w : World} {g : Nat} {t : TypeId} {v : Value} (h : w.heap[g]? = some (.cells #[v] t (0, 0))) : w.rowIs g t 1 (fun _ => v) :=
  ⟨#[v], h, rfl, fun i hi => by
    have hi0 : i = 0 := by omega
    subst hi0; rfl⟩
theorem owns_first {w : World} {B n c : Nat} {A : Option Addr} {vs : List Vt} (h : w.ownsRow B 63 3 (.slice A n c) n (flatV vs)) (hn : 0 < n) : ∃ (b : Nat) (y1 y2 y3 : Int), A = some ⟨b, 0, none⟩ ∧ B ≤ b ∧ b < w.heap.size ∧ w.cell? ⟨b, 0, none⟩ = some (.int .i64 y1) ∧ w.cell? ⟨b, 1, none⟩ = some (.int .i64 y2) ∧ w.cell? ⟨b, 2, none⟩ = some (.int .i64 y3) := by
  obtain ⟨A', c', e, o⟩ := OwnV.of_owns h
  cases e
  obtain ⟨g, m, f, e, hm, hr, hf⟩ := o.own hn
  obtain ⟨l1, l2⟩ := o.low _ e
  refine ⟨g, (getV vs 0).1, (getV vs 0).2.1, (getV vs 0).2.2, e, l1, l2, ?_, ?_, ?_⟩
  · rw [hr.cell (by omega), hf 0 (by omega)]; exact congrArg some (cellsV_0 vs 0)
  · rw [hr.cell (by omega), hf 1 (by omega)]; exact congrArg some (cellsV_1 vs 0)
  · rw [hr.cell (by omega), hf 2 (by omega)]; exact congrArg some (cellsV_2 vs 0)
theorem pofR_lenW (ts : List Blk) (ss : List Int) (vs : List Vt) : (pofR ts ss vs).length ≤ vs.length := by
  unfold pofR
  split
  · exact setV_len vs
  · exact Nat.zero_le _
theorem owns_setN {w : World} {base : Nat} {e : TypeId} {size : Nat} {v : Value} {n : Nat} {xs : List Value} (h : w.ownsRow base e size v n xs) {g : Nat} (hg : v.ownBlock ≠ some g) (u : Value) : (w.setCell ⟨g, 0, none⟩ u).ownsRow base e size v n xs := by
  obtain ⟨h1, h2⟩ := h
  refine ⟨h1, ?_⟩
  rcases h2 with h2 | ⟨g', cap, cur, rfl, q2, q3, q4⟩
  · exact .inl h2
  · exact .inr ⟨g', cap, cur, rfl, q2, (Below.heap_setCell w ⟨g, 0, none⟩ u g' (fun e => hg (by rw [← show g' = g from e]; rfl))).trans q3, q4⟩
def PoolPost (w : World) (g B lim : Nat) (e : Ending) (w' : World) : Prop :=
  ∃ A n c vs, e = .returned (.agg #[.slice A n c]) ∧ OwnV w' w.heap.size A n vs ∧ n ≤ 100 ∧ n ≤ c ∧ (A = none → n = 0 ∧ c = 0) ∧ CurOk w' g B (lim + 2100) ∧ Grew g w.heap.size w w'

set_option maxRecDepth 100000 in
set_option maxHeartbeats 1600000 in
theorem poolOf_any (g B lim : Nat) (A : Option Addr) (n c : Nat) (ts : List Blk) (A' : Option Addr) (n' c' : Nat) (ss : List Int) (w : World) (h : CurOk w g B lim) (hB : B ≤ w.heap.size) (hlim : lim ≤ 68719476736) (ht : BlksAt w w.heap.size A n ts) (hs : IntsAt w w.heap.size A' n' ss) (hfar : ∀ ad, A = some ad → ad.block ≠ g) (hfar' : ∀ ad, A' = some ad → ad.block ≠ g) (hn : n ≤ 1048576) (hn1 : 0 < n) (hn' : n' ≤ 1048576) :
    Calls Try.prog 142 #[.pointer (some ⟨g, 0, none⟩), .slice A n c, .slice A' n' c'] w (PoolPost w g B lim) := by
  have hgB := h.1
  obtain ⟨i0, hi, hzz⟩ := Option.map_eq_some_iff.1 infoVote
  simp only [Prod.mk.injEq] at hzz
  obtain ⟨hz, hsz, hbb⟩ := hzz
  obtain ⟨rR, bW, sW⟩ := bx1_rows w (.slice none 0 0) 55
  have q0 := Lib.hid rR
  have c0 := Lib.hid (h.below ((Below.refl B w).alloc hB (.cells #[.slice none 0 0] 55)))
  have t0 := Lib.hid (ht.up bW); have s0 := Lib.hid (hs.up' bW)
  have G0 := Lib.hid (Grew.of_below (g := g) bW)
  have hf := Lib.hid hfar; have hf' := Lib.hid hfar'
  clear h ht hs hfar hfar' rR bW
  go_enter Try.func142, Try.ntmps142
  go_wp2_with fail
  refine (votes_any g B lim A n c ts (n' : Int) _ c0.out (by omega) (by omega) t0.out hf.out hn hn1 (by omega)).mono ?_
  rintro e w2 ⟨A2, n2, c2, vs, rfl, o2, h90, hcap2, hnil2, cu2, g2⟩
  rw [sW] at o2
  have q2 := Lib.hid (grew_row q0.out g2 (by omega) (by omega))
  have t2 := Lib.hid (blks_grew t0.out g2 hf.out)
  have s2 := Lib.hid (ints_grew s0.out g2 hf'.out)
  have G2 := Lib.hid (G0.out.trans (g2.mono (by omega)))
  have z2 := g2.size
  have v2 := Lib.hid o2.votes; have l2 := Lib.hid o2.len; have cc2 := Lib.hid cu2
  clear o2 cu2 g2 hcap2 hnil2 q0 c0 t0 s0 G0
  go_wp2_with fail
  refine (specPoolOfW_any A n c ts A' n' c' ss A2 n2 c2 vs _ t2.out s2.out v2.out hn hn' (by omega)).mono ?_
  have hpl := Lib.hid (pofR_lenW ts ss vs)
  generalize pofOK ts ss vs = ok at *
  generalize pofR ts ss vs = ps at *
  rintro e w3 ⟨A3, n3, c3, rfl, o3, b3⟩
  have z3 := b3.size
  have hlen3 := o3.1
  rw [flatV_len] at hlen3
  have hn3 : n3 ≤ 90 := by have := hpl.out; have := l2.out; omega
  have hps : ps.length = n3 := by omega
  have q3 := Lib.hid (rowIs_below (rowIs_below q2.out b3 (by omega)) (bx_below w3 (.cells #[.slice A3 n3 c3] 55)) (by omega))
  have x3 := Lib.hid (bx_row w3 (.slice A3 n3 c3) 55)
  have o4 := Lib.hid (owns_belowW o3 (bx_below w3 (.cells #[.slice A3 n3 c3] 55)))
  have b4 := b3.trans ((bx_below w3 (.cells #[.slice A3 n3 c3] 55)).mono z3)
  have cc4 := Lib.hid (cc2.out.below (b4.mono (by omega)))
  have G4 := Lib.hid (G2.out.trans (Grew.of_below (g := g) (b4.mono (by omega))))
  have hx3 := x3.out.cell (i := 0) (by omega)
  have lo3 := Lib.hid (fun q e => (o3.lt q e).2)
  clear o3 b3 b4 q2 t2 s2 G2 v2 l2 cc2 hpl hlen3
  by_cases hn0 : 0 < n3
  · obtain ⟨b, y1, y2, y3, e, hb1, hb2, k1, k2, k3⟩ := owns_first o4.out hn0
    subst e
    have hn0' : (0 : Int) < (n3 : Int) := by omega
    have hsz4 : (w3.alloc (.cells #[.slice (some ⟨b, 0, none⟩) n3 c3] 55)).heap.size = w3.heap.size + 1 := by simp
    have hb3 : b < w3.heap.size := lo3.out b rfl
    have K1 := Lib.hid k1; have K2 := Lib.hid k2; have K3 := Lib.hid k3
    clear hb2
    clear k1 k2 k3 hsz4 lo3
    go_wp2_with fail
    refine (one_any g B (lim + 2000) 30 _ cc4.out (by omega) (by decide)).mono ?_
    rintro e w5 ⟨b5, rfl, c5, on5⟩
    have z5 := Lib.hid (show w5.heap.size = w3.heap.size + 1 by rw [on5.size]; simp)
    have q5 := Lib.hid (rowIs_onlyT q3.out on5 (by omega))
    have x5 := Lib.hid (rowIs_onlyT x3.out on5 (by omega))
    have o5 := Lib.hid (owns_only o4.out on5 (by omega))
    have G5 := Lib.hid (G4.out.trans (Grew.of_only (B := w.heap.size) on5))
    have cc5 := Lib.hid c5
    have k1 := (World.cell?_of_block (w := w3.alloc (.cells #[.slice (some ⟨b, 0, none⟩) n3 c3] 55)) (a := ⟨b, 0, none⟩) (on5.block b (fun ad e => by cases e; show b ≠ g; omega))).trans K1.out
    have k2 := (World.cell?_of_block (w := w3.alloc (.cells #[.slice (some ⟨b, 0, none⟩) n3 c3] 55)) (a := ⟨b, 1, none⟩) (on5.block b (fun ad e => by cases e; show b ≠ g; omega))).trans K2.out
    have k3 := (World.cell?_of_block (w := w3.alloc (.cells #[.slice (some ⟨b, 0, none⟩) n3 c3] 55)) (a := ⟨b, 2, none⟩) (on5.block b (fun ad e => by cases e; show b ≠ g; omega))).trans K3.out
    clear on5 c5 q3 x3 o4 cc4 G4 K1 K2 K3 hx3
    have hx5 := x5.out.cell (i := 0) (by omega)
    cases b5
    · have hf5 := q5.out.frozen 0
      have hq5 := q5.out.cell (i := 0) (by omega)
      have hcapO := Lib.hid (own_cap o5.out rfl)
      clear k1 k2 k3
      go_wp2_with fail
      refine bodyPost_ret (results_cell_row rfl _ _ w.heap.size 55 #[.slice (some ⟨b, 0, none⟩) n3 c3] (0, 0) _ rfl (pl_one_set q5.out _) Try.underlying55 rfl (by kernel_rfl)) rfl ?_
      obtain ⟨A9, c9, e9, o9⟩ := OwnV.of_owns o5.out
      cases e9
      exact ⟨_, n3, c3, ps, rfl, (o9.setBox (by omega) _).fewer (by omega), by omega, hcapO.out.1, hcapO.out.2, (cc5.out.setCell (p := ⟨w.heap.size, 0, none⟩) (by show B ≤ w.heap.size; omega) _).more (by omega), G5.out.setCell (p := ⟨w.heap.size, 0, none⟩) (Nat.le_refl _) _⟩
    · have hne : ¬ n3 = 0 := by omega
      have o5d := Lib.hid (show w5.drew.ownsRow w2.heap.size 63 3 (.slice (some ⟨b, 0, none⟩) n3 c3) n3 (flatV ps) from o5.out)
      have x5d := Lib.hid (show w5.drew.rowIs w3.heap.size 55 1 (fun _ => .slice (some ⟨b, 0, none⟩) n3 c3) from x5.out)
      have z5e : w3.heap.size + 1 ≤ w5.heap.size := by have := z5.out; omega
      have z5d : w3.heap.size + 1 ≤ w5.drew.heap.size := by show w3.heap.size + 1 ≤ w5.heap.size; have := z5.out; omega
      have hx6 := (rowIs_below x5.out (bx_below w5 (.cells #[.int .i64 y1, .int .i64 y2, .int .i64 y3] 63)) (by omega)).cell (i := 0) (by omega)
      have hx6d := (rowIs_below x5d.out (bx_below w5.drew (.cells #[.int .i64 y1, .int .i64 y2, .int .i64 y3] 63)) (by omega)).cell (i := 0) (by omega)
      go_wp2_with fail
      go_region_law (first
        | (refine step_append_lies _ rfl (.tmp 29) (.tmp 34) 53 rfl w2.heap.size 63 i0 (.agg #[.int .i64 0, .int .i64 0, .int .i64 0]) 3 24 Try.underlying53 hi hz hsz hbb rfl (by decide) (.slice (some ⟨b, 0, none⟩) n3 c3) n3 _ rfl (o5d.out.alloc _) ⟨w5.heap.size, 0, none⟩ 1 1 _ rfl rfl (World.news_of_block (heap_alloc_new _ _)) (by intro u hu; simp at hu; rcases hu with rfl | rfl | rfl <;> rfl) (by decide) (by unfold maxLen; omega) (by omega) (by simp; omega) _ rfl ?_
           intro g8 cap8 w8 hown8 hgrow8 hg8a hg8b
           have hb8 := Lib.hid (((Below.refl w2.heap.size w5.drew).alloc (by omega) _).grown hgrow8 (by simp; omega) (fun q e => (o5d.out.lt q e).1))
           have x8 := Lib.hid ((rowIs_below x5d.out (bx_below w5.drew (.cells #[.int .i64 y1, .int .i64 y2, .int .i64 y3] 63)) (by omega)).of_block (hgrow8.block w3.heap.size (by simp; omega) (fun e => by have e2 : w3.heap.size = b := Option.some.inj e; omega)))
           have hcB8 := x8.out.cell (i := 0) (by omega)
           have hfB8 := x8.out.frozen 0
           have q8 := Lib.hid ((rowIs_below (show w5.drew.rowIs w.heap.size 55 1 (fun _ => .slice none 0 0) from q5.out) (bx_below w5.drew (.cells #[.int .i64 y1, .int .i64 y2, .int .i64 y3] 63)) (by show w.heap.size < w5.heap.size; omega)).of_block (hgrow8.block w.heap.size (by simp; omega) (fun e => by have e2 : w.heap.size = b := Option.some.inj e; omega)))
           have hne8 : Hid (g8 ≠ w3.heap.size) := Lib.hid (by
             rcases hg8a with e | e
             · have e2 : b = g8 := Option.some.inj e
               omega
             · simp at e; omega)
           have hown8' := Lib.hid hown8
           have z8 := Lib.hid (Nat.le_trans z5d (hb8.out.size))
           clear hown8 hgrow8 hg8a hg8b))
      all_goals
        go_simp
        have q9 := (q8.out).of_block (Below.heap_setCell w8 ⟨w3.heap.size, 0, none⟩ (.slice (some ⟨g8, 0, none⟩) (n3 + 1) cap8) w.heap.size (by show w.heap.size ≠ w3.heap.size; omega))
        have x9 := row_one_ofP (pl_one_set x8.out (.slice (some ⟨g8, 0, none⟩) (n3 + 1) cap8))
        have o9 := Lib.hid (owns_setN hown8'.out (g := w3.heap.size) (fun e => hne8.out (Option.some.inj e)) (.slice (some ⟨g8, 0, none⟩) (n3 + 1) cap8))
        have cc9 := Lib.hid (((show CurOk w5.drew g B _ from cc5.out).below (hb8.out.mono (by omega))).setCell (p := ⟨w3.heap.size, 0, none⟩) (by show B ≤ w3.heap.size; omega) (.slice (some ⟨g8, 0, none⟩) (n3 + 1) cap8))
        have G9 := Lib.hid (((show Grew g w.heap.size w w5.drew from ⟨G5.out.os, G5.out.tape, G5.out.output, G5.out.size, G5.out.block⟩).trans (Grew.of_below (hb8.out.mono (by omega)))).setCell (p := ⟨w3.heap.size, 0, none⟩) (by show w.heap.size ≤ w3.heap.size; omega) (.slice (some ⟨g8, 0, none⟩) (n3 + 1) cap8))
        clear hcB8 hfB8 hb8 x8 q8 hown8'
        generalize w8.setCell ⟨w3.heap.size, 0, none⟩ (.slice (some ⟨g8, 0, none⟩) (n3 + 1) cap8) = w9 at *
        have q9' := Lib.hid q9; have x9' := Lib.hid x9
        have hx9 := x9.cell (i := 0) (by omega)
        have hf9 := q9.frozen 0
        have hq9 := q9.cell (i := 0) (by omega)
        clear q9 x9 k1 k2 k3 hx5 hx6 hx6d
        go_wp2_with fail
        refine bodyPost_ret (results_cell_row rfl _ _ w.heap.size 55 #[.slice (some ⟨g8, 0, none⟩) (n3 + 1) cap8] (0, 0) _ rfl (pl_one_set q9'.out _) Try.underlying55 rfl (by kernel_rfl)) rfl ?_
        have o10 : w9.ownsRow w2.heap.size 63 3 (.slice (some ⟨g8, 0, none⟩) (n3 + 1) cap8) (n3 + 1) (flatV (ps ++ [(y1, y2, y3)])) := by rw [flatV_app]; exact o9.out
        have hcapO := Lib.hid (own_cap o10 rfl)
        obtain ⟨A9, c9, e9, p9⟩ := OwnV.of_owns o10
        cases e9
        exact ⟨_, n3 + 1, cap8, ps ++ [(y1, y2, y3)], rfl, (p9.setBox (by omega) _).fewer (by omega), by omega, hcapO.out.1, hcapO.out.2, (cc9.out.setCell (p := ⟨w.heap.size, 0, none⟩) (by show B ≤ w.heap.size; omega) _).more (by omega), G9.out.setCell (p := ⟨w.heap.size, 0, none⟩) (Nat.le_refl _) _⟩
  · have hn0' : ¬ (0 : Int) < (n3 : Int) := by omega
    have hf3 := q3.out.frozen 0
    have hq3 := q3.out.cell (i := 0) (by omega)
    have hcapO := Lib.hid (own_cap o4.out rfl)
    go_wp2_with fail
    refine bodyPost_ret (results_cell_row rfl _ _ w.heap.size 55 #[.slice A3 n3 c3] (0, 0) _ rfl (pl_one_set q3.out _) Try.underlying55 rfl (by kernel_rfl)) rfl ?_
    obtain ⟨A9, c9, e9, o9⟩ := OwnV.of_owns o4.out
    cases e9
    exact ⟨_, n3, c3, ps, rfl, (o9.setBox (by omega) _).fewer (by omega), by omega, hcapO.out.1, hcapO.out.2, (cc4.out.setCell (p := ⟨w.heap.size, 0, none⟩) (by show B ≤ w.heap.size; omega) _).more (by omega), G4.out.setCell (p := ⟨w.heap.size, 0, none⟩) (Nat.le_refl _) _⟩
end Go.Proofs.Ythiegfbdmmpabaa

/- What is proved here: what the model's draws of a tree, stakes and a pool return, at every slice of bytes. No conditions beside the slice's length. -/
namespace Go.Proofs.Ythiegfbdmmpabaa
open Go.RowKit

theorem results_ttc {P : Program} {fn : Func} {p a b : Tmp} {ty : TypeId} (h : fn.results = #[.tmp a, .tmp b, .cell p ty]) (tmps : Array Value) (w : World) (g : Nat) (t : TypeId) (cs : Array Value) (fr : Nat × Nat) (d : TypeDesc)
    (hp : tmps.getD p undef = .pointer (some ⟨g, 0, none⟩)) (hg : w.heap[g]? = some (.cells cs t fr))
    (hu : P.underlying ty = some d) (hd : (match d with | .struct _ | .array _ _ => true | _ => false) = true) (hi : (P.info? ty).map (·.size) = some cs.size) :
    (results fn tmps).run P w = .ok (.tuple #[tmps.getD a undef, tmps.getD b undef, .agg cs]) w := by
  have h0 : (results fn tmps).run P w =
      ((asAddr (tmps.getD p undef)).run P w).andThen fun x w₁ => ((loadVar ty x).run P w₁).andThen fun v w₂ => .ok (.tuple #[tmps.getD a undef, tmps.getD b undef, v]) w₂ := by
    simp only [results, h]
    simp [Sem.run_bind, Result.andThen]
  rw [h0, hp]
  simp [asAddr, run_loadVar_row w g t ty cs fr d hg hu hd hi]
theorem results_ttcuu {P : Program} {fn : Func} {p a b u u' : Tmp} {ty : TypeId} (h : fn.results = #[.tmp a, .tmp b, .cell p ty, .tmp u, .tmp u']) (tmps : Array Value) (w : World) (g : Nat) (t : TypeId) (cs : Array Value) (fr : Nat × Nat) (d : TypeDesc)
    (hp : tmps.getD p undef = .pointer (some ⟨g, 0, none⟩)) (hg : w.heap[g]? = some (.cells cs t fr))
    (hu : P.underlying ty = some d) (hd : (match d with | .struct _ | .array _ _ => true | _ => false) = true) (hi : (P.info? ty).map (·.size) = some cs.size) :
    (results fn tmps).run P w = .ok (.tuple #[tmps.getD a undef, tmps.getD b undef, .agg cs, tmps.getD u undef, tmps.getD u' undef]) w := by
  have h0 : (results fn tmps).run P w =
      ((asAddr (tmps.getD p undef)).run P w).andThen fun x w₁ => ((loadVar ty x).run P w₁).andThen fun v w₂ => .ok (.tuple #[tmps.getD a undef, tmps.getD b undef, v, tmps.getD u undef, tmps.getD u' undef]) w₂ := by
    simp only [results, h]
    simp [Sem.run_bind, Result.andThen]
  rw [h0, hp]
  simp [asAddr, run_loadVar_row w g t ty cs fr d hg hu hd hi]
/-- A drawn tree, stakes and pool. -/
structure Poolish (w : World) (A : Option Addr) (n : Nat) (ts : List Blk) (A' : Option Addr) (n' : Nat) (ss : List Int) (V : Option Addr) (m d : Nat) (vs : List Vt) : Prop where
  blk : BlksAt w w.heap.size A n ts
  int : IntsAt w w.heap.size A' n' ss
  vot : VotesAt w w.heap.size V m vs
  hn : n ≤ 25
  hn' : n' ≤ 11
  hm : m ≤ 100
  cap : m ≤ d
  nil : V = none → m = 0 ∧ d = 0
theorem Poolish.up {w w' : World} {A : Option Addr} {n : Nat} {ts : List Blk} {A' : Option Addr} {n' : Nat} {ss : List Int} {V : Option Addr} {m d : Nat} {vs : List Vt} (h : Poolish w A n ts A' n' ss V m d vs) (hb : Below w.heap.size w w') : Poolish w' A n ts A' n' ss V m d vs :=
  ⟨h.blk.up hb, h.int.up' hb, h.vot.up hb, h.hn, h.hn', h.hm, h.cap, h.nil⟩
/-- The blocks from b on. -/
structure Lo (b : Nat) (A A' V : Option Addr) : Prop where
  one : ∀ ad, A = some ad → b ≤ ad.block
  two : ∀ ad, A' = some ad → b ≤ ad.block
  three : ∀ ad, V = some ad → b ≤ ad.block
theorem Lo.less {b b' : Nat} {A A' V : Option Addr} (h : Lo b A A' V) (hb : b' ≤ b) : Lo b' A A' V := ⟨fun ad e => Nat.le_trans hb (h.one ad e), fun ad e => Nat.le_trans hb (h.two ad e), fun ad e => Nat.le_trans hb (h.three ad e)⟩
def DrawPost (w : World) (e : Ending) (w' : World) : Prop :=
  ∃ A n c ts A' n' c' ss V m d vs, e = .returned (.tuple #[.slice A n c, .slice A' n' c', .agg #[.slice V m d]]) ∧ Poolish w' A n ts A' n' ss V m d vs ∧ Lo w.heap.size A A' V ∧ Below w.heap.size w w'
def DrawPost2 (w : World) (e : Ending) (w' : World) : Prop :=
  ∃ A n c ts A' n' c' ss V m d vs x y, e = .returned (.tuple #[.slice A n c, .slice A' n' c', .agg #[.slice V m d], .int .i64 x, .int .i64 y]) ∧ Poolish w' A n ts A' n' ss V m d vs ∧ Lo w.heap.size A A' V ∧ Below w.heap.size w w'
theorem VotesAt.setBoxP {w : World} {B g n : Nat} {A : Option Addr} {vs : List Vt} (h : VotesAt w B A n vs) (hg : ∀ ad, A = some ad → ad.block ≠ g) (v : Value) : VotesAt (w.setCell ⟨g, 0, none⟩ v) B A n vs :=
  ⟨h.1, fun k hk => by
    obtain ⟨b, off, e, hb, c0, c1, c2⟩ := h.2 k hk
    have hne : (w.setCell ⟨g, 0, none⟩ v).heap[b]? = w.heap[b]? := Below.heap_setCell w ⟨g, 0, none⟩ v b (hg _ e)
    exact ⟨b, off, e, hb, (World.cell?_of_block (a := ⟨b, off + k * 3, none⟩) hne).trans c0, (World.cell?_of_block (a := ⟨b, off + k * 3 + 1, none⟩) hne).trans c1, (World.cell?_of_block (a := ⟨b, off + k * 3 + 2, none⟩) hne).trans c2⟩⟩
theorem Poolish.setBox {w : World} {g : Nat} {A : Option Addr} {n : Nat} {ts : List Blk} {A' : Option Addr} {n' : Nat} {ss : List Int} {V : Option Addr} {m d : Nat} {vs : List Vt} (h : Poolish w A n ts A' n' ss V m d vs) {b0 : Nat} (hl : Lo b0 A A' V) (hg : g < b0) (v : Value) : Poolish (w.setCell ⟨g, 0, none⟩ v) A n ts A' n' ss V m d vs := by
  have hsz : (w.setCell ⟨g, 0, none⟩ v).heap.size = w.heap.size := by simp [World.setCell]
  refine ⟨⟨h.blk.1, fun k hk => ?_⟩, ⟨h.int.1, fun k hk => ?_⟩, ?_, h.hn, h.hn', h.hm, h.cap, h.nil⟩
  · obtain ⟨b, off, e, hb, c0, c1⟩ := h.blk.2 k hk
    have hne : (w.setCell ⟨g, 0, none⟩ v).heap[b]? = w.heap[b]? := Below.heap_setCell w ⟨g, 0, none⟩ v b (by have h9 := hl.one _ e; exact Nat.ne_of_gt (Nat.lt_of_lt_of_le hg h9))
    exact ⟨b, off, e, by rw [hsz]; exact hb, (World.cell?_of_block (a := ⟨b, off + k * 2, none⟩) hne).trans c0, (World.cell?_of_block (a := ⟨b, off + k * 2 + 1, none⟩) hne).trans c1⟩
  · obtain ⟨b, off, e, hb, c0⟩ := h.int.2 k hk
    have hne : (w.setCell ⟨g, 0, none⟩ v).heap[b]? = w.heap[b]? := Below.heap_setCell w ⟨g, 0, none⟩ v b (by have h9 := hl.two _ e; exact Nat.ne_of_gt (Nat.lt_of_lt_of_le hg h9))
    exact ⟨b, off, e, by rw [hsz]; exact hb, (World.cell?_of_block (a := ⟨b, off + k, none⟩) hne).trans c0⟩
  · rw [hsz]; exact h.vot.setBoxP (fun ad e => Nat.ne_of_gt (Nat.lt_of_lt_of_le hg (hl.three ad e))) v

set_option maxRecDepth 100000 in
set_option maxHeartbeats 1600000 in
theorem drawGoodPool_any (A : Option Addr) (n c : Nat) (w : World) (h : BytesIn w A n) (hn : n ≤ 1048576) :
    Calls Try.prog 110 #[.slice A n c] w (DrawPost w) := by
  obtain ⟨rR, bW, sW⟩ := bx1_rows w (.slice none 0 0) 55
  have q0 := Lib.hid rR; have b0 := Lib.hid bW
  have cu0 := Lib.hid (cur_new (c := c) (h.below bW) hn)
  clear rR bW
  go_enter Try.func110, Try.ntmps110
  go_wp2_with fail
  have z0 : ((w.alloc (.cells #[.slice none 0 0] 55)).alloc (.cells #[.slice A n c, .int .i64 0, .int .u64 0] 123)).heap.size = w.heap.size + 2 := by simp
  have q1 := Lib.hid (rowIs_below q0.out (new_below (w.alloc (.cells #[.slice none 0 0] 55)) (.cells #[.slice A n c, .int .i64 0, .int .u64 0] 123)) (by omega))
  have b1 := Lib.hid (b0.out.trans ((new_below (w.alloc (.cells #[.slice none 0 0] 55)) (.cells #[.slice A n c, .int .i64 0, .int .u64 0] 123)).mono (by omega)))
  rw [sW] at cu0
  clear q0 b0
  generalize ((w.alloc (.cells #[.slice none 0 0] 55)).alloc (.cells #[.slice A n c, .int .i64 0, .int .u64 0] 123)) = w1 at *
  refine (tree_any (w.heap.size + 1) (w.heap.size + 1 + 1) 0 w1 cu0.out (by omega) (by decide)).mono ?_
  rintro e w2 ⟨A1, n1, c1, ts, rfl, t2, far2, hn1, hn25, cu2, g2⟩
  have z2 := g2.size
  have q2 := Lib.hid (grew_row q1.out g2 (by omega) (by omega))
  have b2 := Lib.hid ((Grew.of_below (g := w.heap.size + 1) b1.out).trans (g2.mono (by omega)))
  have t2' := Lib.hid t2; have far2' := Lib.hid far2; have cu2' := Lib.hid cu2
  clear t2 far2 cu2 g2 q1 b1 cu0
  go_wp2_with fail
  refine (stakes_any (w.heap.size + 1) (w.heap.size + 1 + 1) (0 + 200) w2 cu2'.out (by omega) (by decide)).mono ?_
  rintro e w3 ⟨A2, n2, c2, ss, rfl, o3, hn2, _, _, cu3, g3⟩
  have z3 := g3.size
  have q3 := Lib.hid (grew_row q2.out g3 (by omega) (by omega))
  have b3 := Lib.hid (b2.out.trans (g3.mono (by omega)))
  have t3' := Lib.hid (blks_grew t2'.out g3 (fun ad e => by have := far2'.out ad e; omega))
  have s3' := Lib.hid o3.ints
  have fs3 := Lib.hid (fun ad e => (o3.low ad e).1)
  have cu3' := Lib.hid cu3
  clear o3 cu3 g3 q2 b2 t2' cu2'
  go_wp2_with fail
  refine (poolOf_any (w.heap.size + 1) (w.heap.size + 1 + 1) (0 + 200 + 100) A1 n1 c1 ts A2 n2 c2 ss w3 cu3'.out (by omega) (by decide) t3'.out s3'.out (fun ad e => by have := far2'.out ad e; omega) (fun ad e => by have := fs3.out ad e; omega) (by omega) (by omega) (by omega)).mono ?_
  rintro e w4 ⟨V, m, d, vs, rfl, o4, hm, hcap, hnil, cu4, g4⟩
  have z4 := g4.size
  have q4 := Lib.hid (grew_row q3.out g4 (by omega) (by omega))
  have b4 := Lib.hid (b3.out.trans (g4.mono (by omega)))
  have P4 := Lib.hid (show Poolish w4 A1 n1 ts A2 n2 ss V m d vs from ⟨blks_grew t3'.out g4 (fun ad e => by have := far2'.out ad e; omega), ints_grew s3'.out g4 (fun ad e => by have := fs3.out ad e; omega), o4.votes, by omega, hn2, hm, hcap, hnil⟩)
  have fv4 := Lib.hid (fun ad e => (o4.low ad e).1)
  clear o4 cu4 g4 q3 b3 t3' s3' cu3' hcap hnil
  have hf4 := q4.out.frozen 0
  have hq4 := q4.out.cell (i := 0) (by omega)
  go_wp2_with fail
  refine bodyPost_ret (results_ttc rfl _ _ w.heap.size 55 #[.slice V m d] (0, 0) _ rfl (pl_one_set q4.out _) Try.underlying55 rfl (by kernel_rfl)) rfl ?_
  have lo4 : Lo (w.heap.size + 1) A1 A2 V := ⟨fun ad e => by have := far2'.out ad e; omega, fun ad e => by have := fs3.out ad e; omega, fun ad e => by have := fv4.out ad e; omega⟩
  exact ⟨_, n1, c1, ts, _, n2, c2, ss, V, m, d, vs, rfl, P4.out.setBox lo4 (Nat.lt_succ_self _) _, lo4.less (Nat.le_succ _), (b4.out.below (by omega)).setCell (by show w.heap.size ≤ w.heap.size; omega) _⟩
end Go.Proofs.Ythiegfbdmmpabaa

/- What is proved here: what the model's draws of the arguments of ActiveIn, HeadWithin and Trim return, at every slice of bytes. No conditions beside the slice's length. -/
namespace Go.Proofs.Ythiegfbdmmpabaa
open Go.RowKit

theorem eight_at (w : World) (s : Nat) (hs : w.heap.size = s) (a b c d e f g h : Int) (t : TypeId) : IntsAt (w.alloc (.cells #[.int .i64 a, .int .i64 b, .int .i64 c, .int .i64 d, .int .i64 e, .int .i64 f, .int .i64 g, .int .i64 h] t)) (s + 1) (some ⟨s, 0, none⟩) 8 [a, b, c, d, e, f, g, h] := by
  subst hs
  refine ⟨rfl, fun k hk => ⟨w.heap.size, 0, rfl, Nat.lt_succ_self _, ?_⟩⟩
  have hc := fun (j : Nat) => cell_of_row (w.alloc (.cells #[.int .i64 a, .int .i64 b, .int .i64 c, .int .i64 d, .int .i64 e, .int .i64 f, .int .i64 g, .int .i64 h] t)) w.heap.size j _ t (0, 0) (heap_alloc_new _ _)
  match k, hk with
  | 0, _ => exact hc 0
  | 1, _ => exact hc 1
  | 2, _ => exact hc 2
  | 3, _ => exact hc 3
  | 4, _ => exact hc 4
  | 5, _ => exact hc 5
  | 6, _ => exact hc 6
  | 7, _ => exact hc 7
  | k + 8, h => omega
theorem six_at (w : World) (s : Nat) (hs : w.heap.size = s) (a b c d e f : Int) (t : TypeId) : IntsAt (w.alloc (.cells #[.int .i64 a, .int .i64 b, .int .i64 c, .int .i64 d, .int .i64 e, .int .i64 f] t)) (s + 1) (some ⟨s, 0, none⟩) 6 [a, b, c, d, e, f] := by
  subst hs
  refine ⟨rfl, fun k hk => ⟨w.heap.size, 0, rfl, Nat.lt_succ_self _, ?_⟩⟩
  have hc := fun (j : Nat) => cell_of_row (w.alloc (.cells #[.int .i64 a, .int .i64 b, .int .i64 c, .int .i64 d, .int .i64 e, .int .i64 f] t)) w.heap.size j _ t (0, 0) (heap_alloc_new _ _)
  match k, hk with
  | 0, _ => exact hc 0
  | 1, _ => exact hc 1
  | 2, _ => exact hc 2
  | 3, _ => exact hc 3
  | 4, _ => exact hc 4
  | 5, _ => exact hc 5
  | k + 6, h => omega
theorem ints_onlyA {w w' : World} {g B n : Nat} {A : Option Addr} {xs : List Int} (h : IntsAt w B A n xs) (ho : Only (some ⟨g, 0, none⟩) w w') (hg : ∀ ad, A = some ad → ad.block ≠ g) : IntsAt w' B A n xs :=
  ⟨h.1, fun k hk => by
    obtain ⟨b, off, e, hb, h1⟩ := h.2 k hk
    have h2 : b ≠ g := hg _ e
    exact ⟨b, off, e, hb, (World.cell?_of_block (a := ⟨b, off + k, none⟩) (ho.block b (fun ad e => by cases e; exact h2))).trans h1⟩⟩

set_option maxRecDepth 100000 in
set_option maxHeartbeats 3200000 in
theorem drawActive_any (A : Option Addr) (n c : Nat) (w : World) (h : BytesIn w A n) (hn : n ≤ 1048576) :
    Calls Try.prog 42 #[.slice A n c] w (DrawPost2 w) := by
  obtain ⟨rR, bW, sW⟩ := bx1_rows w (.slice none 0 0) 55
  have q0 := Lib.hid rR; have b0 := Lib.hid bW
  have h0 := Lib.hid (h.below bW)
  clear rR bW h
  go_enter Try.func42, Try.ntmps42
  go_wp2_with fail
  refine (drawGoodPool_any A n c _ h0.out hn).mono ?_
  rintro e w1 ⟨A1, n1, c1, ts, A2, n2, c2, ss, V, m, d, vs, rfl, P1, L1, k1⟩
  have z1 := k1.size
  rw [sW] at z1 L1
  have q1 := Lib.hid (rowIs_below q0.out k1 (by omega))
  have b1 := Lib.hid (b0.out.trans (k1.mono (by omega)))
  have h1 := h0.out.below k1
  have P1' := Lib.hid P1; have L1' := Lib.hid L1
  have kA := bx_below w1 (.cells #[.slice V m d] 55)
  have kB := bx_below (w1.alloc (.cells #[.slice V m d] 55)) (.cells #[.slice A n c, .int .i64 0, .int .u64 0] 123)
  have zA : (w1.alloc (.cells #[.slice V m d] 55)).heap.size = w1.heap.size + 1 := by simp
  have zB := Lib.hid (show ((w1.alloc (.cells #[.slice V m d] 55)).alloc (.cells #[.slice A n c, .int .i64 0, .int .u64 0] 123)).heap.size = w1.heap.size + 2 by simp)
  have cu3 := Lib.hid (cur_new (c := c) (h1.below kA) hn)
  have x3 := Lib.hid (rowIs_below (bx_row w1 (.slice V m d) 55) kB (by omega))
  have kC := Lib.hid (kA.trans (kB.mono (by omega)))
  have q3 := Lib.hid (rowIs_below q1.out kC.out (by omega))
  rw [zA] at cu3
  clear P1 L1 k1 q0 q1 h0 b0 h1 kA kB zA
  go_upto_region 3 with fail
  generalize (w1.alloc (.cells #[.slice V m d] 55)).alloc (.cells #[.slice A n c, .int .i64 0, .int .u64 0] 123) = w3 at *
  have hz3 : w3.heap.size ≥ w1.heap.size + 2 := by have := zB.out; omega
  have cuD := Lib.hid (show CurOk w3.drew (w1.heap.size + 1) (w1.heap.size + 1 + 1) 0 from cu3.out)
  have hB3 : (w1.heap.size + 1 + 1) ≤ w3.drew.heap.size := by show w1.heap.size + 1 + 1 ≤ w3.heap.size; omega
  have gD : Grew (w1.heap.size + 1) w3.heap.size w3 w3.drew := ⟨rfl, rfl, rfl, Nat.le_refl _, fun _ _ _ => rfl⟩
  have gA := gD.alloc (Nat.le_refl _) (.cells #[.int .i64 0, .int .i64 1, .int .i64 3, .int .i64 6, .int .i64 10, .int .i64 15, .int .i64 4000, .int .i64 4001] 3)
  have g6 := gD.alloc (Nat.le_refl _) (.cells #[.int .i64 0, .int .i64 1, .int .i64 2, .int .i64 4, .int .i64 100, .int .i64 101] 3)
  have gB := g6.alloc g6.size (.cells #[.int .i64 0, .int .i64 1, .int .i64 3, .int .i64 6, .int .i64 10, .int .i64 15, .int .i64 4000, .int .i64 4001] 3)
  have gC := gA.alloc gA.size (.cells #[.int .i64 0, .int .i64 1, .int .i64 2, .int .i64 4, .int .i64 100, .int .i64 101] 3)
  have GA := Lib.hid (show Grew (w1.heap.size + 1) w3.heap.size w3 (w3.alloc (.cells #[.int .i64 0, .int .i64 1, .int .i64 3, .int .i64 6, .int .i64 10, .int .i64 15, .int .i64 4000, .int .i64 4001] 3)).drew from gA)
  have G6 := Lib.hid (show Grew (w1.heap.size + 1) w3.heap.size w3 (w3.alloc (.cells #[.int .i64 0, .int .i64 1, .int .i64 2, .int .i64 4, .int .i64 100, .int .i64 101] 3)).drew from g6)
  have GB := Lib.hid (show Grew (w1.heap.size + 1) w3.heap.size w3 ((w3.alloc (.cells #[.int .i64 0, .int .i64 1, .int .i64 2, .int .i64 4, .int .i64 100, .int .i64 101] 3)).alloc (.cells #[.int .i64 0, .int .i64 1, .int .i64 3, .int .i64 6, .int .i64 10, .int .i64 15, .int .i64 4000, .int .i64 4001] 3)).drew from gB)
  have GC := Lib.hid (show Grew (w1.heap.size + 1) w3.heap.size w3 ((w3.alloc (.cells #[.int .i64 0, .int .i64 1, .int .i64 3, .int .i64 6, .int .i64 10, .int .i64 15, .int .i64 4000, .int .i64 4001] 3)).alloc (.cells #[.int .i64 0, .int .i64 1, .int .i64 2, .int .i64 4, .int .i64 100, .int .i64 101] 3)).drew from gC)
  have cuA := Lib.hid (show CurOk (w3.alloc (.cells #[.int .i64 0, .int .i64 1, .int .i64 3, .int .i64 6, .int .i64 10, .int .i64 15, .int .i64 4000, .int .i64 4001] 3)).drew (w1.heap.size + 1) (w1.heap.size + 1 + 1) 0 from cuD.out.below ((Below.refl (w1.heap.size + 1 + 1) w3.drew).alloc hB3 (.cells #[.int .i64 0, .int .i64 1, .int .i64 3, .int .i64 6, .int .i64 10, .int .i64 15, .int .i64 4000, .int .i64 4001] 3)))
  have cuB := Lib.hid (show CurOk ((w3.alloc (.cells #[.int .i64 0, .int .i64 1, .int .i64 2, .int .i64 4, .int .i64 100, .int .i64 101] 3)).alloc (.cells #[.int .i64 0, .int .i64 1, .int .i64 3, .int .i64 6, .int .i64 10, .int .i64 15, .int .i64 4000, .int .i64 4001] 3)).drew (w1.heap.size + 1) (w1.heap.size + 1 + 1) 0 from cuD.out.below (((Below.refl (w1.heap.size + 1 + 1) w3.drew).alloc hB3 (.cells #[.int .i64 0, .int .i64 1, .int .i64 2, .int .i64 4, .int .i64 100, .int .i64 101] 3)).alloc (by have := g6.size; omega) (.cells #[.int .i64 0, .int .i64 1, .int .i64 3, .int .i64 6, .int .i64 10, .int .i64 15, .int .i64 4000, .int .i64 4001] 3)))
  have cuC := Lib.hid (show CurOk ((w3.alloc (.cells #[.int .i64 0, .int .i64 1, .int .i64 3, .int .i64 6, .int .i64 10, .int .i64 15, .int .i64 4000, .int .i64 4001] 3)).alloc (.cells #[.int .i64 0, .int .i64 1, .int .i64 2, .int .i64 4, .int .i64 100, .int .i64 101] 3)).drew (w1.heap.size + 1) (w1.heap.size + 1 + 1) 0 from cuD.out.below (((Below.refl (w1.heap.size + 1 + 1) w3.drew).alloc hB3 (.cells #[.int .i64 0, .int .i64 1, .int .i64 3, .int .i64 6, .int .i64 10, .int .i64 15, .int .i64 4000, .int .i64 4001] 3)).alloc (by have := gA.size; omega) (.cells #[.int .i64 0, .int .i64 1, .int .i64 2, .int .i64 4, .int .i64 100, .int .i64 101] 3)))
  have i8 := eight_at w3.drew w3.heap.size rfl 0 1 3 6 10 15 4000 4001 3
  have i6 := six_at w3.drew w3.heap.size rfl 0 1 2 4 100 101 3
  have iA := Lib.hid (show IntsAt (w3.alloc (.cells #[.int .i64 0, .int .i64 1, .int .i64 3, .int .i64 6, .int .i64 10, .int .i64 15, .int .i64 4000, .int .i64 4001] 3)).drew (w3.heap.size + 2) (some ⟨w3.heap.size, 0, none⟩) 8 [0, 1, 3, 6, 10, 15, 4000, 4001] from i8.more (by omega : w3.heap.size + 1 ≤ w3.heap.size + 2))
  have iB := Lib.hid (show IntsAt ((w3.alloc (.cells #[.int .i64 0, .int .i64 1, .int .i64 2, .int .i64 4, .int .i64 100, .int .i64 101] 3)).alloc (.cells #[.int .i64 0, .int .i64 1, .int .i64 3, .int .i64 6, .int .i64 10, .int .i64 15, .int .i64 4000, .int .i64 4001] 3)).drew (w3.heap.size + 2) (some ⟨w3.heap.size + 1, 0, none⟩) 8 [0, 1, 3, 6, 10, 15, 4000, 4001] from eight_at (w3.drew.alloc (.cells #[.int .i64 0, .int .i64 1, .int .i64 2, .int .i64 4, .int .i64 100, .int .i64 101] 3)) (w3.heap.size + 1) (by simp) 0 1 3 6 10 15 4000 4001 3)
  have iB6 := Lib.hid (show IntsAt ((w3.alloc (.cells #[.int .i64 0, .int .i64 1, .int .i64 2, .int .i64 4, .int .i64 100, .int .i64 101] 3)).alloc (.cells #[.int .i64 0, .int .i64 1, .int .i64 3, .int .i64 6, .int .i64 10, .int .i64 15, .int .i64 4000, .int .i64 4001] 3)).drew (w3.heap.size + 2) (some ⟨w3.heap.size, 0, none⟩) 6 [0, 1, 2, 4, 100, 101] from (i6.below ((bx_below (w3.drew.alloc (.cells #[.int .i64 0, .int .i64 1, .int .i64 2, .int .i64 4, .int .i64 100, .int .i64 101] 3)) (.cells #[.int .i64 0, .int .i64 1, .int .i64 3, .int .i64 6, .int .i64 10, .int .i64 15, .int .i64 4000, .int .i64 4001] 3)).mono (by simp))).more (by omega : w3.heap.size + 1 ≤ w3.heap.size + 2))
  have iC8 := Lib.hid (show IntsAt ((w3.alloc (.cells #[.int .i64 0, .int .i64 1, .int .i64 3, .int .i64 6, .int .i64 10, .int .i64 15, .int .i64 4000, .int .i64 4001] 3)).alloc (.cells #[.int .i64 0, .int .i64 1, .int .i64 2, .int .i64 4, .int .i64 100, .int .i64 101] 3)).drew (w3.heap.size + 2) (some ⟨w3.heap.size, 0, none⟩) 8 [0, 1, 3, 6, 10, 15, 4000, 4001] from (i8.below ((bx_below (w3.drew.alloc (.cells #[.int .i64 0, .int .i64 1, .int .i64 3, .int .i64 6, .int .i64 10, .int .i64 15, .int .i64 4000, .int .i64 4001] 3)) (.cells #[.int .i64 0, .int .i64 1, .int .i64 2, .int .i64 4, .int .i64 100, .int .i64 101] 3)).mono (by simp))).more (by omega : w3.heap.size + 1 ≤ w3.heap.size + 2))
  have iC6 := Lib.hid (show IntsAt ((w3.alloc (.cells #[.int .i64 0, .int .i64 1, .int .i64 3, .int .i64 6, .int .i64 10, .int .i64 15, .int .i64 4000, .int .i64 4001] 3)).alloc (.cells #[.int .i64 0, .int .i64 1, .int .i64 2, .int .i64 4, .int .i64 100, .int .i64 101] 3)).drew (w3.heap.size + 2) (some ⟨w3.heap.size + 1, 0, none⟩) 6 [0, 1, 2, 4, 100, 101] from six_at (w3.drew.alloc (.cells #[.int .i64 0, .int .i64 1, .int .i64 3, .int .i64 6, .int .i64 10, .int .i64 15, .int .i64 4000, .int .i64 4001] 3)) (w3.heap.size + 1) (by simp) 0 1 2 4 100 101 3)
  have kcell := Lib.hid (show ∀ W : World, Grew (w1.heap.size + 1) w3.heap.size w3 W → W.cell? ⟨w1.heap.size, 0, none⟩ = some (.slice V m d) from fun W hW => (hW.cell (p := ⟨w1.heap.size, 0, none⟩) (by show w1.heap.size < w3.heap.size; omega) (by show w1.heap.size ≠ w1.heap.size + 1; omega)).trans (x3.out.cell (i := 0) (by omega)))
  have zcD := kcell.out w3.drew gD
  have zc0 := kcell.out w3 (Grew.refl _ _ _)
  have zcA := kcell.out _ GA.out
  have zc6 := kcell.out _ G6.out
  have zcB := kcell.out _ GB.out
  have zcC := kcell.out _ GC.out
  have ycA : (w3.alloc (.cells #[.int .i64 0, .int .i64 1, .int .i64 3, .int .i64 6, .int .i64 10, .int .i64 15, .int .i64 4000, .int .i64 4001] 3)).cell? ⟨w1.heap.size, 0, none⟩ = some (.slice V m d) := kcell.out (w3.alloc (.cells #[.int .i64 0, .int .i64 1, .int .i64 3, .int .i64 6, .int .i64 10, .int .i64 15, .int .i64 4000, .int .i64 4001] 3)).drew GA.out
  have yc6 : (w3.alloc (.cells #[.int .i64 0, .int .i64 1, .int .i64 2, .int .i64 4, .int .i64 100, .int .i64 101] 3)).cell? ⟨w1.heap.size, 0, none⟩ = some (.slice V m d) := kcell.out (w3.alloc (.cells #[.int .i64 0, .int .i64 1, .int .i64 2, .int .i64 4, .int .i64 100, .int .i64 101] 3)).drew G6.out
  have ycB : ((w3.alloc (.cells #[.int .i64 0, .int .i64 1, .int .i64 2, .int .i64 4, .int .i64 100, .int .i64 101] 3)).alloc (.cells #[.int .i64 0, .int .i64 1, .int .i64 3, .int .i64 6, .int .i64 10, .int .i64 15, .int .i64 4000, .int .i64 4001] 3)).cell? ⟨w1.heap.size, 0, none⟩ = some (.slice V m d) := kcell.out ((w3.alloc (.cells #[.int .i64 0, .int .i64 1, .int .i64 2, .int .i64 4, .int .i64 100, .int .i64 101] 3)).alloc (.cells #[.int .i64 0, .int .i64 1, .int .i64 3, .int .i64 6, .int .i64 10, .int .i64 15, .int .i64 4000, .int .i64 4001] 3)).drew GB.out
  have ycC : ((w3.alloc (.cells #[.int .i64 0, .int .i64 1, .int .i64 3, .int .i64 6, .int .i64 10, .int .i64 15, .int .i64 4000, .int .i64 4001] 3)).alloc (.cells #[.int .i64 0, .int .i64 1, .int .i64 2, .int .i64 4, .int .i64 100, .int .i64 101] 3)).cell? ⟨w1.heap.size, 0, none⟩ = some (.slice V m d) := kcell.out ((w3.alloc (.cells #[.int .i64 0, .int .i64 1, .int .i64 3, .int .i64 6, .int .i64 10, .int .i64 15, .int .i64 4000, .int .i64 4001] 3)).alloc (.cells #[.int .i64 0, .int .i64 1, .int .i64 2, .int .i64 4, .int .i64 100, .int .i64 101] 3)).drew GC.out
  clear i6 i8 gA g6 gB gC gD x3
  have tk0 : True := trivial
  go_region_held3 (fun w' => w'.cell? ⟨w1.heap.size, 0, none⟩ = some (.slice V m d)) (first | assumption | exact ks _ | go_keep) (first
      | (clear tk0
         go_at_call 111
         refine (among_any (w1.heap.size + 1) (w1.heap.size + 1 + 1) 0 8 8 (w3.heap.size + 2) _ [0, 1, 3, 6, 10, 15, 4000, 4001] _ ?_ (by decide) ?_ (by decide) (by decide) ?_).mono ?_
         · with_reducible first | exact cuA.out | exact cuB.out | exact cuC.out
         · with_reducible first | exact iA.out | exact iB.out | exact iC8.out
         · exact (fun ad e => by cases e; dsimp only; omega)
         rintro e w4 ⟨j, hj, rfl, c4, o4⟩
         have g4 := Lib.hid (show Grew (w1.heap.size + 1) w3.heap.size w3 w4 from by with_reducible first | exact GA.out.trans (Grew.of_only o4) | exact GB.out.trans (Grew.of_only o4) | exact GC.out.trans (Grew.of_only o4))
         have hs4 : w3.heap.size ≤ w4.heap.size := g4.out.size
         have cu4 := Lib.hid c4
         have zc4 := kcell.out w4 g4.out
         have zc46 := kcell.out _ (g4.out.alloc hs4 (.cells #[.int .i64 0, .int .i64 1, .int .i64 2, .int .i64 4, .int .i64 100, .int .i64 101] 3))
         first
           | (have i46 := Lib.hid ((by with_reducible exact ints_onlyA iB6.out o4 (fun ad e => by cases e; show w3.heap.size ≠ w1.heap.size + 1; omega) : IntsAt w4 (w3.heap.size + 2) (some ⟨w3.heap.size, 0, none⟩) 6 [0, 1, 2, 4, 100, 101]).more (by omega : w3.heap.size + 2 ≤ w4.heap.size + 2)))
           | (have i46 := Lib.hid ((by with_reducible exact ints_onlyA iC6.out o4 (fun ad e => by cases e; show w3.heap.size + 1 ≠ w1.heap.size + 1; omega) : IntsAt w4 (w3.heap.size + 2) (some ⟨w3.heap.size + 1, 0, none⟩) 6 [0, 1, 2, 4, 100, 101]).more (by omega : w3.heap.size + 2 ≤ w4.heap.size + 2)))
           | skip
         clear c4 o4
         generalize ([0, 1, 3, 6, 10, 15, 4000, 4001] : List Int)[j]?.getD 0 = now
         have tk1 : True := trivial)
      | (clear tk1
         go_at_call 111
         have cu46 := cu4.out.below ((Below.refl (w1.heap.size + 1 + 1) w4).alloc (by omega) (.cells #[.int .i64 0, .int .i64 1, .int .i64 2, .int .i64 4, .int .i64 100, .int .i64 101] 3))
         have j46 := (six_at w4 w4.heap.size rfl 0 1 2 4 100 101 3).more (by omega : w4.heap.size + 1 ≤ w4.heap.size + 2)
         have g46 := g4.out.alloc hs4 (.cells #[.int .i64 0, .int .i64 1, .int .i64 2, .int .i64 4, .int .i64 100, .int .i64 101] 3)
         refine (among_any (w1.heap.size + 1) (w1.heap.size + 1 + 1) (0 + 2) 6 6 (w4.heap.size + 2) _ [0, 1, 2, 4, 100, 101] _ ?_ (by decide) ?_ (by decide) (by decide) ?_).mono ?_
         · with_reducible first | exact cu4.out | exact cu46
         · with_reducible first | exact j46 | exact i46.out
         · exact (fun ad e => by cases e; dsimp only; omega)
         rintro e w5 ⟨j2, hj2, rfl, c5, o5⟩
         have g5 := Lib.hid (show Grew (w1.heap.size + 1) w3.heap.size w3 w5 from by with_reducible first | exact g4.out.trans (Grew.of_only o5) | exact g46.trans (Grew.of_only o5))
         have zc5 := kcell.out w5 g5.out
         have q5 := Lib.hid (grew_row q3.out g5.out (by omega) (by omega))
         have hq5 := q5.out.cell (i := 0) (by omega)
         have hf5 := q5.out.frozen 0
         have ks := fun v => (World.cell?_of_block (a := ⟨w1.heap.size, 0, none⟩) (Below.heap_setCell w5 ⟨w.heap.size, 0, none⟩ v w1.heap.size (by show w1.heap.size ≠ w.heap.size; omega))).trans (kcell.out w5 g5.out)
         have k5 := Lib.hid (((Grew.of_below (g := w1.heap.size + 1) kC.out).trans (g5.out.mono (by omega))).below (by omega))
         clear c5 o5 cu46 j46 g46
         generalize ([0, 1, 2, 4, 100, 101] : List Int)[j2]?.getD 0 = keep))
  all_goals
    go_wp2_with fail
    refine bodyPost_ret (results_ttcuu rfl _ _ w.heap.size 55 #[.slice V m d] (0, 0) _ rfl (pl_one_set q5.out _) Try.underlying55 rfl (by kernel_rfl)) rfl ?_
    exact ⟨_, n1, c1, ts, _, n2, c2, ss, V, m, d, vs, now, keep, rfl, (P1'.out.up k5.out).setBox L1'.out (Nat.lt_succ_self _) _, L1'.out.less (Nat.le_succ _), (b1.out.trans (k5.out.mono (by omega))).setCell (by show w.heap.size ≤ w.heap.size; omega) _⟩
end Go.Proofs.Ythiegfbdmmpabaa

/- What is proved here: what the model's draws of the arguments of HeadWithin and Trim return, at every slice of bytes. No conditions beside the slice's length. -/
namespace Go.Proofs.Ythiegfbdmmpabaa
open Go.RowKit

end Go.Proofs.Ythiegfbdmmpabaa
