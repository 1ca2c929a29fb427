/- What is proved here: what the model's draws of the arguments of RunsOutAt, FinalView and VotersFor return, at every slice of bytes. No conditions beside the slice's length. -/
import Derived.Test.YthiegfbdmmpabaaDrawWin
import Derived.Deep.RegionWith
import Derived.Test.YthiegfbdmmpabaaVotes
import Derived.BigQuiet
import Derived.Test.YthiegfbdmmpabaaTrimSpec
import Derived.Test.YthiegfbdmmpabaaOpenVotes
import Derived.Test.YthiegfbdmmpabaaWeighSpec
import Derived.Test.YthiegfbdmmpabaaGhostRest
import Derived.Test.YthiegfbdmmpabaaForFacts
import Derived.Test.YthiegfbdmmpabaaLatestSpec
import Derived.Test.YthiegfbdmmpabaaAsleepFacts
import Derived.Test.YthiegfbdmmpabaaLawHelp
import Derived.Test.YthiegfbdmmpabaaMeet
import Derived.Test.YthiegfbdmmpabaaLiarsSpec
namespace Go.Proofs.Ythiegfbdmmpabaa
open Go.RowKit

theorem results_ttcu {P : Program} {fn : Func} {p a b u : Tmp} {ty : TypeId} (h : fn.results = #[.tmp a, .tmp b, .cell p ty, .tmp u]) (tmps : Array Value) (w : World) (g : Nat) (t : TypeId) (cs : Array Value) (fr : Nat × Nat) (d : TypeDesc)
    (hp : tmps.getD p undef = .pointer (some ⟨g, 0, none⟩)) (hg : w.heap[g]? = some (.cells cs t fr))
    (hu : P.underlying ty = some d) (hd : (match d with | .struct _ | .array _ _ => true | _ => false) = true) (hi : (P.info? ty).map (·.size) = some cs.size) :
    (results fn tmps).run P w = .ok (.tuple #[tmps.getD a undef, tmps.getD b undef, .agg cs, tmps.getD u undef]) w := by
  have h0 : (results fn tmps).run P w =
      ((asAddr (tmps.getD p undef)).run P w).andThen fun x w₁ => ((loadVar ty x).run P w₁).andThen fun v w₂ => .ok (.tuple #[tmps.getD a undef, tmps.getD b undef, v, tmps.getD u undef]) w₂ := by
    simp only [results, h]
    simp [Sem.run_bind, Result.andThen]
  rw [h0, hp]
  simp [asAddr, run_loadVar_row w g t ty cs fr d hg hu hd hi]
theorem five_at (w : World) (s : Nat) (hs : w.heap.size = s) (a b c d e : Int) (t : TypeId) : IntsAt (w.alloc (.cells #[.int .i64 a, .int .i64 b, .int .i64 c, .int .i64 d, .int .i64 e] t)) (s + 1) (some ⟨s, 0, none⟩) 5 [a, b, c, d, e] := by
  subst hs
  refine ⟨rfl, fun k hk => ⟨w.heap.size, 0, rfl, Nat.lt_succ_self _, ?_⟩⟩
  have hc := fun (j : Nat) => cell_of_row (w.alloc (.cells #[.int .i64 a, .int .i64 b, .int .i64 c, .int .i64 d, .int .i64 e] t)) w.heap.size j _ t (0, 0) (heap_alloc_new _ _)
  match k, hk with
  | 0, _ => exact hc 0
  | 1, _ => exact hc 1
  | 2, _ => exact hc 2
  | 3, _ => exact hc 3
  | 4, _ => exact hc 4
  | k + 5, h => omega
theorem wrap_smallI {y : Int} (h0 : -100 ≤ y) (h1 : y ≤ 1000) : IntKind.i64.wrap y = y := by
  simp [IntKind.wrap, IntKind.bits, IntKind.signed]
  split <;> omega
def RunsPost (w : World) (e : Ending) (w' : World) : Prop :=
  ∃ x y z k : Int, e = .returned (.tuple #[.agg #[.int .i64 x, .int .i64 y, .int .i64 z], .int .i64 k]) ∧ Below w.heap.size w w'

set_option maxRecDepth 100000 in
set_option maxHeartbeats 3200000 in
theorem drawRuns_any (A : Option Addr) (n c : Nat) (w : World) (h : BytesIn w A n) (hn : n ≤ 1048576) :
    Calls Try.prog 54 #[.slice A n c] w (RunsPost w) := by
  have rV := bx_row3 w (.int .i64 0) (.int .i64 0) (.int .i64 0) 63
  have bV := new_below w (.cells #[.int .i64 0, .int .i64 0, .int .i64 0] 63)
  have sV : (w.alloc (.cells #[.int .i64 0, .int .i64 0, .int .i64 0] 63)).heap.size = w.heap.size + 1 := by simp
  have bC := new_below (w.alloc (.cells #[.int .i64 0, .int .i64 0, .int .i64 0] 63)) (.cells #[.slice A n c, .int .i64 0, .int .u64 0] 123)
  have cu0 := cur_new (c := c) (h.below bV) hn
  rw [sV] at cu0
  have q0 := Lib.hid (rowIs_below rV bC (by omega))
  have b0 := Lib.hid (bV.trans (bC.mono (by omega)))
  have sC : ((w.alloc (.cells #[.int .i64 0, .int .i64 0, .int .i64 0] 63)).alloc (.cells #[.slice A n c, .int .i64 0, .int .u64 0] 123)).heap.size = w.heap.size + 2 := by simp
  have cu0' := Lib.hid cu0
  clear rV bV bC cu0 h sV
  go_enter Try.func54, Try.ntmps54
  go_upto_region 2 with fail
  generalize ((w.alloc (.cells #[.int .i64 0, .int .i64 0, .int .i64 0] 63)).alloc (.cells #[.slice A n c, .int .i64 0, .int .u64 0] 123)) = w1 at *
  have sC' := Lib.hid sC
  clear sC
  have tk0 : True := trivial
  go_wp2_with (first
    | (clear tk0
       go_at_call 126
       refine (pick_any (w.heap.size + 1) (w.heap.size + 1 + 1) 0 3 w1 cu0'.out (by decide) (by decide)).mono ?_
       rintro e w2 ⟨x, rfl, _, _, c2, o2⟩
       have s2 := o2.size
       have bx := new_below w2 (.cells #[.int .i64 0, .int .i64 1, .int .i64 9, .int .i64 4000, .int .i64 4001] 3)
       have g2 := Lib.hid ((Grew.of_only (B := w1.heap.size) o2).trans (Grew.of_below (bx.mono (by omega))))
       have c2' := Lib.hid (c2.below (bx.mono (by have := sC'.out; omega)))
       have i2 := Lib.hid (five_at w2 w2.heap.size rfl 0 1 9 4000 4001 3)
       have hs2 := Lib.hid (show w2.heap.size = w.heap.size + 2 by rw [s2, sC'.out])
       clear c2 o2 s2 bx
       have tk1 : True := trivial)
    | (clear tk1
       go_at_call 111
       refine (among_any (w.heap.size + 1) (w.heap.size + 1 + 1) (0 + 2) 5 5 (w2.heap.size + 1) _ [0, 1, 9, 4000, 4001] _ c2'.out (by decide) i2.out (by decide) (by decide) (fun ad e => by cases e; dsimp only; have := hs2.out; omega)).mono ?_
       rintro e w3 ⟨j, hj, rfl, c3, o3⟩
       have g3 := Lib.hid (g2.out.trans (Grew.of_only o3))
       have c3' := Lib.hid c3
       generalize ([0, 1, 9, 4000, 4001] : List Int)[j]?.getD 0 = y
       clear c3 o3
       have tk2 : True := trivial)
    | (clear tk2
       go_at_call 126
       refine (pick_any (w.heap.size + 1) (w.heap.size + 1 + 1) (0 + 2 + 2) 3 w3 c3'.out (by decide) (by decide)).mono ?_
       rintro e w4 ⟨z, rfl, _, _, c4, o4⟩
       have hs3 := g3.out.size
       have hs4 : w4.heap.size = w3.heap.size := o4.size
       have bx := new_below w4 (.cells #[.int .i64 0, .int .i64 1, .int .i64 5, .int .i64 100, .int .i64 101] 3)
       have g4 := Lib.hid ((g3.out.trans (Grew.of_only (B := w1.heap.size) o4)).trans (Grew.of_below (bx.mono (by omega))))
       have c4' := Lib.hid (c4.below (bx.mono (by have := sC'.out; omega)))
       have i4 := Lib.hid (five_at w4 w4.heap.size rfl 0 1 5 100 101 3)
       have hl4 := Lib.hid (show w.heap.size + 2 ≤ w4.heap.size by have := sC'.out; omega)
       clear c4 o4 bx hs3 hs4
       have tk3 : True := trivial)
    | (clear tk3
       go_at_call 111
       refine (among_any (w.heap.size + 1) (w.heap.size + 1 + 1) (0 + 2 + 2 + 2) 5 5 (w4.heap.size + 1) _ [0, 1, 5, 100, 101] _ c4'.out (by decide) i4.out (by decide) (by decide) (fun ad e => by cases e; dsimp only; have := hl4.out; omega)).mono ?_
       rintro e w5 ⟨j5, hj5, rfl, c5, o5⟩
       have g5 := Lib.hid (g4.out.trans (Grew.of_only o5))
       have q5 := Lib.hid (grew_row q0.out g5.out (by have := sC'.out; omega) (by omega))
       have e0 := row3_0 q5.out
       have e1 := row3_1 q5.out
       have e2 := row3_2 q5.out
       have f0 := q5.out.frozen 0
       have f1 := q5.out.frozen 1
       have f2 := q5.out.frozen 2
       generalize ([0, 1, 5, 100, 101] : List Int)[j5]?.getD 0 = kk
       clear c5 o5))
  refine bodyPost_ret (results_row2 rfl _ _ w.heap.size 63 #[.int .i64 x, .int .i64 y, .int .i64 z] (0, 0) _ rfl (pl_three (row3_set q5.out _ _ _)) Try.underlying63 rfl (by kernel_rfl)) rfl ?_
  have u5 : Below w.heap.size w w5 := ((Grew.of_below (g := w.heap.size + 1) b0.out).trans (g5.out.mono (by have := sC'.out; omega))).below (by omega)
  exact ⟨x, y, z, kk, rfl, ((u5.setCell (p := ⟨w.heap.size, 0, none⟩) (Nat.le_refl _) _).setCell (p := ⟨w.heap.size, 1, none⟩) (Nat.le_refl _) _).setCell (p := ⟨w.heap.size, 2, none⟩) (Nat.le_refl _) _⟩

def DrawPost1 (w : World) (e : Ending) (w' : World) : Prop :=
  ∃ A n c ts A' n' c' ss V m d vs x, e = .returned (.tuple #[.slice A n c, .slice A' n' c', .agg #[.slice V m d], .int .i64 x]) ∧ Poolish w' A n ts A' n' ss V m d vs ∧ Lo w.heap.size A A' V ∧ Below w.heap.size w w'
set_option maxRecDepth 100000 in
set_option maxHeartbeats 3200000 in
theorem drawFinalView_any (A : Option Addr) (n c : Nat) (w : World) (h : BytesIn w A n) (hn : n ≤ 1048576) :
    Calls Try.prog 56 #[.slice A n c] w (DrawPost1 w) := by
  obtain ⟨rR, bW, sW⟩ := bx1_rows w (.slice none 0 0) 55
  have q0 := Lib.hid rR; have b0 := Lib.hid bW
  have h0 := Lib.hid (h.below bW)
  clear rR bW h
  go_enter Try.func56, Try.ntmps56
  go_wp2_with fail
  refine (drawActive_any A n c _ h0.out hn).mono ?_
  rintro e w1 ⟨A1, n1, c1, ts, A2, n2, c2, ss, V, m, d, vs, x, y, rfl, P1, L1, k1⟩
  have z1 := k1.size
  rw [sW] at z1 L1
  have kB := bx_below w1 (.cells #[.slice V m d] 55)
  have zB : (w1.alloc (.cells #[.slice V m d] 55)).heap.size = w1.heap.size + 1 := by simp
  have q1 := Lib.hid (rowIs_below (rowIs_below q0.out k1 (by omega)) kB (by omega))
  have x3 := Lib.hid (bx_row w1 (.slice V m d) 55)
  have b1 := Lib.hid ((b0.out.trans (k1.mono (by omega))).trans (kB.mono (by have := b0.out.size; omega)))
  have P1' := Lib.hid (P1.up kB); have L1' := Lib.hid L1
  clear P1 L1 k1 q0 h0 b0 kB
  go_upto_region 2 with fail
  generalize w1.alloc (.cells #[.slice V m d] 55) = w3 at *
  have hf := q1.out.frozen 0
  have hq := q1.out.cell (i := 0) (by omega)
  have hx := x3.out.cell (i := 0) (by omega)
  have ks := fun v => (World.cell?_of_block (a := ⟨w1.heap.size, 0, none⟩) (Below.heap_setCell w3.drew ⟨w.heap.size, 0, none⟩ v w1.heap.size (by show w1.heap.size ≠ w.heap.size; omega))).trans hx
  go_region_held3 (fun w' => w'.cell? ⟨w1.heap.size, 0, none⟩ = some (.slice V m d)) (first | assumption | exact ks _ | go_keep) (fail)
  all_goals
    go_wp2_with fail
    refine bodyPost_ret (results_ttcu rfl _ _ w.heap.size 55 #[.slice V m d] (0, 0) _ rfl (pl_one_set (show w3.drew.rowIs w.heap.size 55 1 _ from q1.out) _) Try.underlying55 rfl (by kernel_rfl)) rfl ?_
    exact ⟨_, n1, c1, ts, _, n2, c2, ss, V, m, d, vs, x, rfl, (show Poolish w3.drew A1 n1 ts A2 n2 ss V m d vs from ⟨⟨P1'.out.blk.1, P1'.out.blk.2⟩, ⟨P1'.out.int.1, P1'.out.int.2⟩, ⟨P1'.out.vot.1, P1'.out.vot.2⟩, P1'.out.hn, P1'.out.hn', P1'.out.hm, P1'.out.cap, P1'.out.nil⟩).setBox L1'.out (Nat.lt_succ_self _) _, L1'.out.less (Nat.le_succ _), (show Below w.heap.size w w3.drew from ⟨b1.out.os, b1.out.tape, b1.out.output, b1.out.size, b1.out.block⟩).setCell (by show w.heap.size ≤ w.heap.size; omega) _⟩

set_option maxRecDepth 100000 in
set_option maxHeartbeats 3200000 in
theorem drawVotersFor_any (A : Option Addr) (n c : Nat) (w : World) (h : BytesIn w A n) (hn : n ≤ 1048576) :
    Calls Try.prog 67 #[.slice A n c] w (DrawPost1 w) := by
  obtain ⟨rR, bW, sW⟩ := bx1_rows w (.slice none 0 0) 55
  have q0 := Lib.hid rR; have b0 := Lib.hid bW
  have h0 := Lib.hid (h.below bW)
  clear rR bW h
  go_enter Try.func67, Try.ntmps67
  go_wp2_with fail
  refine (drawGoodPool_any A n c _ h0.out hn).mono ?_
  rintro e w1 ⟨A1, n1, c1, ts, A2, n2, c2, ss, V, m, d, vs, rfl, P1, L1, k1⟩
  have z1 := k1.size
  rw [sW] at z1 L1
  have hn1 : n1 ≤ 25 := P1.hn
  have h1 := h0.out.below k1
  have kA := bx_below w1 (.cells #[.slice V m d] 55)
  have kB := bx_below (w1.alloc (.cells #[.slice V m d] 55)) (.cells #[.slice A n c, .int .i64 0, .int .u64 0] 123)
  have zA : (w1.alloc (.cells #[.slice V m d] 55)).heap.size = w1.heap.size + 1 := by simp
  have zB := Lib.hid (show ((w1.alloc (.cells #[.slice V m d] 55)).alloc (.cells #[.slice A n c, .int .i64 0, .int .u64 0] 123)).heap.size = w1.heap.size + 2 by simp)
  have kC := kA.trans (kB.mono (by omega))
  have cu := cur_new (c := c) (h1.below kA) hn
  rw [zA] at cu
  have cu3 := Lib.hid cu
  have q1 := Lib.hid (rowIs_below (rowIs_below q0.out k1 (by omega)) kC (by omega))
  have x3 := Lib.hid (rowIs_below (bx_row w1 (.slice V m d) 55) kB (by omega))
  have b1 := Lib.hid (b0.out.trans (k1.mono (by omega)))
  have P1' := Lib.hid P1; have L1' := Lib.hid L1; have kC' := Lib.hid kC
  clear P1 L1 k1 q0 h0 b0 kA kB kC h1 cu zA
  go_upto_region 3 with fail
  generalize (w1.alloc (.cells #[.slice V m d] 55)).alloc (.cells #[.slice A n c, .int .i64 0, .int .u64 0] 123) = w3 at *
  have hz3 := zB.out
  have cuD := Lib.hid (show CurOk w3.drew (w1.heap.size + 1) (w1.heap.size + 1 + 1) 0 from cu3.out)
  have gD : Grew (w1.heap.size + 1) w3.heap.size w3 w3.drew := ⟨rfl, rfl, rfl, Nat.le_refl _, fun _ _ _ => rfl⟩
  have kcell := Lib.hid (show ∀ W : World, Grew (w1.heap.size + 1) w3.heap.size w3 W → W.cell? ⟨w1.heap.size, 0, none⟩ = some (.slice V m d) from fun W hW => (hW.cell (p := ⟨w1.heap.size, 0, none⟩) (by show w1.heap.size < w3.heap.size; omega) (by show w1.heap.size ≠ w1.heap.size + 1; omega)).trans (x3.out.cell (i := 0) (by omega)))
  have zcD := kcell.out w3.drew gD
  have zc0 := kcell.out w3 (Grew.refl _ _ _)
  have hf := q1.out.frozen 0
  have hq := q1.out.cell (i := 0) (by omega)
  obtain ⟨N2, hN2⟩ : ∃ N : Nat, n1 + 2 = N := ⟨_, rfl⟩
  have hNI : (n1 : Int) + 2 = (N2 : Int) := by omega
  have hNw : IntKind.i64.wrap ((n1 : Int) + 2) = (N2 : Int) := by rw [hNI]; exact wrap_natV (by omega)
  have hN27 : N2 ≤ 27 := by omega
  clear hN2 hNI
  have tk0 : True := trivial
  go_region_held3 (fun w' => w'.cell? ⟨w1.heap.size, 0, none⟩ = some (.slice V m d)) (first | assumption | exact ks _ | go_keep) (first
      | (clear tk0
         go_at_call 126
         refine (pick_any (w1.heap.size + 1) (w1.heap.size + 1 + 1) 0 _ _ cuD.out (by decide) (by omega)).mono ?_
         rintro e w5 ⟨x, rfl, hx0, hx1, c5, o5⟩
         obtain ⟨y, hy⟩ : ∃ y : Int, x - 1 = y := ⟨_, rfl⟩
         have hyw : IntKind.i64.wrap (x - 1) = y := by { rw [hy]; exact wrap_smallI (by omega) (by omega) }
         clear hy hx0 hx1
         have g5 := Lib.hid (gD.trans (Grew.of_only o5))
         have zc5 := kcell.out w5 g5.out
         have q5 := Lib.hid (grew_row q1.out g5.out (by omega) (by omega))
         have hq5 := q5.out.cell (i := 0) (by omega)
         have hf5 := q5.out.frozen 0
         have ks := fun v => (World.cell?_of_block (a := ⟨w1.heap.size, 0, none⟩) (Below.heap_setCell w5 ⟨w.heap.size, 0, none⟩ v w1.heap.size (by show w1.heap.size ≠ w.heap.size; omega))).trans (kcell.out w5 g5.out)
         clear c5 o5))
  all_goals
    go_wp2_with fail
    refine bodyPost_ret (results_ttcu rfl _ _ w.heap.size 55 #[.slice V m d] (0, 0) _ rfl (pl_one_set q5.out _) Try.underlying55 rfl (by kernel_rfl)) rfl ?_
    have k5 := ((Grew.of_below (g := w1.heap.size + 1) kC'.out).trans (g5.out.mono (by omega))).below (by omega)
    exact ⟨_, n1, c1, ts, _, n2, c2, ss, V, m, d, vs, _, rfl, (P1'.out.up k5).setBox L1'.out (Nat.lt_succ_self _) _, L1'.out.less (Nat.le_succ _), (b1.out.trans (k5.mono (by omega))).setCell (by show w.heap.size ≤ w.heap.size; omega) _⟩
end Go.Proofs.Ythiegfbdmmpabaa

/- What is proved here: what the model's draws that pass on those of GoodPool return, at every slice of bytes. No conditions beside the slice's length. -/
namespace Go.Proofs.Ythiegfbdmmpabaa
open Go.RowKit

set_option maxRecDepth 100000 in
set_option maxHeartbeats 1600000 in
theorem drawLatest_any (A : Option Addr) (n c : Nat) (w : World) (h : BytesIn w A n) (hn : n ≤ 1048576) :
    Calls Try.prog 58 #[.slice A n c] w (DrawPost w) := by
  obtain ⟨rR, bW, sW⟩ := bx1_rows w (.slice none 0 0) 55
  have q0 := Lib.hid rR; have b0 := Lib.hid bW
  have h0 := Lib.hid (h.below bW)
  clear rR bW h
  go_enter Try.func58, Try.ntmps58
  go_wp2_with fail
  refine (drawGoodPool_any A n c _ h0.out hn).mono ?_
  rintro e w1 ⟨A1, n1, c1, ts, A2, n2, c2, ss, V, m, d, vs, rfl, P1, L1, k1⟩
  have z1 := k1.size
  rw [sW] at z1 L1
  have q1 := Lib.hid (rowIs_below q0.out k1 (by omega))
  have b1 := Lib.hid (b0.out.trans (k1.mono (by omega)))
  have P1' := Lib.hid P1; have L1' := Lib.hid L1
  clear P1 L1 k1 q0 h0 b0
  have hf1 := q1.out.frozen 0
  have hq1 := q1.out.cell (i := 0) (by omega)
  go_wp2_with fail
  refine bodyPost_ret (results_ttc rfl _ _ w.heap.size 55 #[.slice V m d] (0, 0) _ rfl (pl_one_set q1.out _) Try.underlying55 rfl (by kernel_rfl)) rfl ?_
  exact ⟨_, n1, c1, ts, _, n2, c2, ss, V, m, d, vs, rfl, P1'.out.setBox L1'.out (Nat.lt_succ_self _) _, L1'.out.less (Nat.le_succ _), b1.out.setCell (by show w.heap.size ≤ w.heap.size; omega) _⟩
end Go.Proofs.Ythiegfbdmmpabaa

/- What is proved here: what the laws' comparison of votes returns at two slices that hold the same votes. No conditions but lengths. -/
namespace Go.Proofs.Ythiegfbdmmpabaa
open Go.RowKit

theorem drew_below {w w' : World} {m : Nat} (h : w' = w.drewN m) : Below w.heap.size w w' := by rw [h]; exact below_drewN (Below.refl _ _) m
set_option maxRecDepth 100000 in
set_option maxHeartbeats 800000 in
theorem sameVotes_any (A A' : Option Addr) (n n' c c' B : Nat) (vs : List Vt) (w : World) (h : VotesAt w B A n vs) (h' : VotesAt w B A' n' vs) (hn : n ≤ 1048576) :
    Calls Try.prog 47 #[.slice A n c, .slice A' n' c'] w fun e w' => e = .returned (.bool true) ∧ ∃ m, w' = w.drewN m := by
  have he : n = n' := h.1.symm.trans h'.1
  subst he
  have hr := Lib.hid h; clear h
  have hr2 := Lib.hid h'; clear h'
  have hne : ((n : Int) != (n : Int)) = false := by simp
  go_enter Try.func47, Try.ntmps47
  go_wp2_with fail
  go_loopw [13] (fun i wr => ∃ k : Nat, k ≤ n ∧ i = .int .i64 k ∧ ∃ m, wr = w.drewN m) (fun i _ => n - (intOf i).toNat)
  case atStart => exact ⟨0, Nat.zero_le _, rfl, 0, rfl⟩
  case round =>
    obtain ⟨k, hk, rfl, m, rfl⟩ := hrel
    by_cases hlt : k < n
    · obtain ⟨b, off, rfl, _, c0, c1, c2⟩ := hr.out.2 k hlt
      obtain ⟨b', off', rfl, _, d0, d1, d2⟩ := hr2.out.2 k hlt
      generalize (getV vs k).1 = x1 at c0 d0
      generalize (getV vs k).2.1 = x2 at c1 d1
      generalize (getV vs k).2.2 = x3 at c2 d2
      go_wp2_with fail
      go_quiet (fail)
      go_wp2_with fail
      go_roundw
      case rel => exact ⟨k + 1, by omega, by go_num, _, rfl⟩
      case measure => simp [intOf]; omega
    · go_wp2_with fail
      go_ret
      exact ⟨rfl, _, rfl⟩
theorem hasS_any (A : Option Addr) (n c B : Nat) (xs : List Int) (x : Int) (w : World) (h : IntsAt w B A n xs) (hn : n ≤ 1048576) :
    Calls Try.prog 50 #[.slice A n c, .int .i64 x] w fun e w' => e = .returned (.bool (decide (x ∈ xs))) ∧ w' = w := by
  have hl := Lib.hid h.1
  have hr := Lib.hid h; clear h
  go_enter Try.func50, Try.ntmps50
  go_wp2_with fail
  go_loop [6, 9] (fun _ i => ∃ k : Nat, k ≤ n ∧ i = .int .i64 k ∧ Hid (∀ j, j < k → xs[j]?.getD 0 ≠ x)) (fun _ i => n - (intOf i).toNat)
  case atStart => exact ⟨0, Nat.zero_le _, rfl, Lib.hid (fun j hj => absurd hj (Nat.not_lt_zero _))⟩
  case round =>
    obtain ⟨k, hk, rfl, hall⟩ := hrel
    by_cases hlt : k < n
    · obtain ⟨b, off, e, _, hc⟩ := hr.out.2 k hlt
      subst e
      obtain ⟨y, hy⟩ : ∃ y, Hid (xs[k]?.getD 0 = y) := ⟨_, Lib.hid rfl⟩
      rw [hy.out] at hc
      by_cases he : y = x
      · have hq : (y == x) = true := by simp [he]
        have hin := Lib.hid (show decide (x ∈ xs) = true by
          have := hy.out
          rw [List.getElem?_eq_getElem (by rw [hl.out]; exact hlt), Option.getD_some] at this
          rw [decide_eq_true_iff, ← he, ← this]; exact List.getElem_mem _)
        clear he
        go_wp2_with fail
        go_ret
        exact ⟨ret_bool hin.out.symm, rfl⟩
      · have hq : (y == x) = false := by simp [he]
        have hall2 := Lib.hid (show ∀ j, j < k + 1 → xs[j]?.getD 0 ≠ x from fun j hj => by
          by_cases e : j = k
          · subst e; rw [hy.out]; exact he
          · exact hall.out j (by omega))
        clear he
        go_wp2_with fail
        go_round
        case rel => exact ⟨k + 1, by omega, by go_num, hall2⟩
        case measure => simp [intOf]; omega
    · have hin := Lib.hid (show decide (x ∈ xs) = false by
        rw [decide_eq_false_iff_not]
        intro hm
        obtain ⟨j, hj, e⟩ := List.mem_iff_getElem.1 hm
        refine hall.out j (by rw [hl.out] at hj; omega) ?_
        rw [List.getElem?_eq_getElem hj, Option.getD_some, e])
      go_wp2_with fail
      go_ret
      exact ⟨ret_bool hin.out.symm, rfl⟩
end Go.Proofs.Ythiegfbdmmpabaa

/- What is proved here: what the program's and the model's RunsOutAt return; the law on RunsOutAt returns true at every argument, and writes nothing that was there. No conditions. -/
namespace Go.Proofs.Ythiegfbdmmpabaa
open Go.RowKit

def runB (y keep : Int) : Bool := nowB y && keepB keep
def runR (y keep : Int) : Int := if runB y keep = true then y + keep + 1 else 0
theorem run_iff {y keep : Int} : runB y keep = true ↔ (1 ≤ y ∧ y ≤ 4000) ∧ 1 ≤ keep ∧ keep ≤ 100 := by
  unfold runB nowB keepB
  rw [Bool.and_eq_true, inB_iff, inB_iff]

set_option maxRecDepth 100000 in
set_option maxHeartbeats 800000 in
theorem implRuns_any (x y z keep : Int) (w : World) : Calls Try.prog 49 #[.agg #[.int .i64 x, .int .i64 y, .int .i64 z], .int .i64 keep] w (UpPost w (.tuple #[.int .i64 (runR y keep), .bool (runB y keep)])) := by
  have r3 := three_cells w x y z 63
  have hb := Lib.hid (bx_below w (.cells #[.int .i64 x, .int .i64 y, .int .i64 z] 63))
  have c1 := r3.cell (i := 1) (by omega)
  simp only [if_true, if_false, show (1 : Nat) ≠ 0 by decide] at c1
  clear r3
  cases h1 : nowB y
  · have hr := Lib.hid (show runB y keep = false by unfold runB; rw [h1]; rfl)
    have hv := Lib.hid (show runR y keep = 0 by unfold runR; rw [if_neg (by rw [hr.out]; decide)])
    go_enter Try.func49, Try.ntmps49
    go_wp2_with (go_at_call 119; refine (isSlot_any y _).mono ?_; rintro e w2 ⟨rfl, rfl⟩; rw [h1])
    go_ret2
    exact ⟨ret_two hv.out.symm hr.out.symm, hb.out⟩
  · cases h2 : keepB keep
    · have hr := Lib.hid (show runB y keep = false by unfold runB; rw [h2]; simp)
      have hv := Lib.hid (show runR y keep = 0 by unfold runR; rw [if_neg (by rw [hr.out]; decide)])
      go_enter Try.func49, Try.ntmps49
      go_wp2_with (first
        | (go_at_call 119; refine (isSlot_any y _).mono ?_; rintro e w2 ⟨rfl, rfl⟩; rw [h1])
        | (go_at_call 120; refine (isPer_any keep _).mono ?_; rintro e w2 ⟨rfl, rfl⟩; rw [h2]))
      go_ret2
      exact ⟨ret_two hv.out.symm hr.out.symm, hb.out⟩
    · have hr := Lib.hid (show runB y keep = true by unfold runB; rw [h1, h2]; rfl)
      have hv := Lib.hid (show runR y keep = y + keep + 1 by unfold runR; rw [if_pos hr.out])
      obtain ⟨b1, b2⟩ := run_iff.1 hr.out
      go_enter Try.func49, Try.ntmps49
      go_wp2_with (first
        | (go_at_call 119; refine (isSlot_any y _).mono ?_; rintro e w2 ⟨rfl, rfl⟩; rw [h1])
        | (go_at_call 120; refine (isPer_any keep _).mono ?_; rintro e w2 ⟨rfl, rfl⟩; rw [h2]))
      go_ret2
      exact ⟨ret_two (by rw [hv.out]) hr.out.symm, hb.out⟩
set_option maxRecDepth 100000 in
set_option maxHeartbeats 800000 in
theorem specRuns_any (x y z keep : Int) (w : World) : Calls Try.prog 55 #[.agg #[.int .i64 x, .int .i64 y, .int .i64 z], .int .i64 keep] w (UpPost w (.tuple #[.int .i64 (runR y keep), .bool (runB y keep)])) := by
  have r3 := three_cells w x y z 63
  have hb := Lib.hid (bx_below w (.cells #[.int .i64 x, .int .i64 y, .int .i64 z] 63))
  have c1 := r3.cell (i := 1) (by omega)
  simp only [if_true, if_false, show (1 : Nat) ≠ 0 by decide] at c1
  clear r3
  have q1 := Lib.hid (fun W => l1In_any y 1 4000 W)
  have q2 := Lib.hid (fun W => l1In_any keep 1 100 W)
  rw [show inB y 1 4000 = nowB y from rfl] at q1
  rw [show inB keep 1 100 = keepB keep from rfl] at q2
  cases h1 : nowB y
  · have hr := Lib.hid (show runB y keep = false by unfold runB; rw [h1]; rfl)
    have hv := Lib.hid (show runR y keep = 0 by unfold runR; rw [if_neg (by rw [hr.out]; decide)])
    rw [h1] at q1
    go_enter Try.func55, Try.ntmps55
    go_wp2_with (go_at_call 80; refine (q1.out _).mono ?_; rintro e w2 ⟨rfl, rfl⟩)
    go_ret2
    exact ⟨ret_two hv.out.symm hr.out.symm, hb.out⟩
  · rw [h1] at q1
    cases h2 : keepB keep
    · have hr := Lib.hid (show runB y keep = false by unfold runB; rw [h2]; simp)
      have hv := Lib.hid (show runR y keep = 0 by unfold runR; rw [if_neg (by rw [hr.out]; decide)])
      rw [h2] at q2
      have tk0 : True := trivial
      go_enter Try.func55, Try.ntmps55
      go_wp2_with (first
        | (clear tk0; go_at_call 80; refine (q1.out _).mono ?_; rintro e w2 ⟨rfl, rfl⟩)
        | (go_at_call 80; refine (q2.out _).mono ?_; rintro e w2 ⟨rfl, rfl⟩))
      go_ret2
      exact ⟨ret_two hv.out.symm hr.out.symm, hb.out⟩
    · have hr := Lib.hid (show runB y keep = true by unfold runB; rw [h1, h2]; rfl)
      have hv := Lib.hid (show runR y keep = y + keep + 1 by unfold runR; rw [if_pos hr.out])
      obtain ⟨b1, b2⟩ := run_iff.1 hr.out
      rw [h2] at q2
      have tk0 : True := trivial
      go_enter Try.func55, Try.ntmps55
      go_wp2_with (first
        | (clear tk0; go_at_call 80; refine (q1.out _).mono ?_; rintro e w2 ⟨rfl, rfl⟩)
        | (go_at_call 80; refine (q2.out _).mono ?_; rintro e w2 ⟨rfl, rfl⟩))
      go_ret2
      exact ⟨ret_two (by rw [hv.out]) hr.out.symm, hb.out⟩
end Go.Proofs.Ythiegfbdmmpabaa

/- What is proved here: what the program's and the model's WeightWithin return. No conditions but lengths. -/
namespace Go.Proofs.Ythiegfbdmmpabaa
open Go.RowKit

theorem sum_setI (xs : List Int) : ∀ (k : Nat) (y : Int), k < xs.length → sumL (xs.set k y) = sumL xs - getI xs k + y := by
  induction xs with
  | nil => intro k y h; simp at h
  | cons x xs ih =>
    intro k y h
    cases k with
    | zero => simp only [List.set_cons_zero, sumL, List.sum_cons, getI, List.getElem?_cons_zero, Option.getD_some]; omega
    | succ k =>
      have := ih k y (by simpa using h)
      simp only [List.set_cons_succ, sumL, List.sum_cons, getI, List.getElem?_cons_succ] at this ⊢
      omega
/-- The stakes of the first k of the votes l, summed up. -/
def totK (ss : List Int) (l : List Vt) : Nat → Int
  | 0 => 0
  | k + 1 => totK ss l k + getI ss (getV l k).1.toNat
theorem totK_bd {n : Nat} {ss : List Int} {l : List Vt} (hv : VotesOf n ss.length l) (hb : Bds ss) : ∀ k, k ≤ l.length → 0 ≤ totK ss l k ∧ totK ss l k ≤ 1000 * k := by
  intro k
  induction k with
  | zero => intro _; simp [totK]
  | succ k ih =>
    intro hk
    obtain ⟨⟨x, hx, hxm⟩, _⟩ := hv k (by omega)
    have h1 := ih (by omega)
    have h3 := hb x hxm
    have hg : getI ss x = ss[x]?.getD 0 := rfl
    simp only [totK]
    rw [hx, Int.toNat_natCast, hg]
    omega
theorem wts_tot {n : Nat} {ss : List Int} {l : List Vt} (hv : VotesOf n ss.length l) (hb : Bds ss) (hl : l.length ≤ 60) : ∀ k, k ≤ l.length → sumL (wtsK n ss l k) = totK ss l k := by
  intro k
  induction k with
  | zero => intro _; simp [wtsK, totK, sumL]
  | succ k ih =>
    intro hk
    obtain ⟨⟨x, hx, hxm⟩, ⟨b, hbb, hbn⟩⟩ := hv k (by omega)
    have h2 := wtsK_bd hv hb hl k (by omega) b
    have h3 := hb x hxm
    have hg : getI ss x = ss[x]?.getD 0 := rfl
    simp only [wtsK, totK]
    rw [hx, hbb, Int.toNat_natCast, Int.toNat_natCast]
    unfold addI
    rw [sum_setI _ _ _ (by rw [wtsK_len]; exact hbn), ih (by omega), hg]
    unfold wrap64
    omega
def wtWR (ts : List Blk) (ss : List Int) (vs : List Vt) (now keep : Int) : Int := if trimOK ts ss vs now keep = true then totK ss (latList (actR ts ss vs now keep)) (latList (actR ts ss vs now keep)).length else 0
theorem act_pool' {ts : List Blk} {ss : List Int} {vs : List Vt} {now keep : Int} (h : trimOK ts ss vs now keep = true) : poolOk ts ss (actR ts ss vs now keep) = true := by
  unfold actR
  rw [if_pos h]
  exact poolOk_filter (trimOK_iff.1 h).1 _

set_option maxHeartbeats 400000 in
theorem implSumW_any (A : Option Addr) (n c B : Nat) (xs : List Int) (w : World) (h : IntsAt w B A n xs) (hn : n ≤ 1048576) (hb : ∀ k, k < xs.length → 0 ≤ xs[k]?.getD 0 ∧ xs[k]?.getD 0 ≤ 60000) :
    Calls Try.prog 157 #[.slice A n c] w fun e w' => e = .returned (.int .i64 (sumL xs)) ∧ w = w' := by
  have hl' := Lib.hid h.1
  have hr := Lib.hid h; clear h
  have hb' := Lib.hid hb; clear hb
  go_enter Try.func157, Try.ntmps157
  go_wp2
  go_loop [3, 8] (fun s i => ∃ k : Nat, k ≤ n ∧ i = .int .i64 k ∧ s = .int .i64 (sumL (xs.take k))) (fun _ i => n - (intOf i).toNat)
  case atStart => exact ⟨0, Nat.zero_le _, rfl, rfl⟩
  case round =>
    obtain ⟨k, hk, rfl, rfl⟩ := hrel
    by_cases hlt : k < n
    · obtain ⟨b, off, rfl, _, hc⟩ := hr.out.2 k hlt
      have hs := Lib.hid (sumL_step (s := xs) (k := k) (by rw [hl'.out]; exact hlt))
      obtain ⟨g1, g2⟩ := sumL_bd hb'.out k (by rw [hl'.out]; exact hk)
      obtain ⟨g3, g4⟩ := hb'.out k (by rw [hl'.out]; exact hlt)
      go_wp2
      go_round
      case rel => exact ⟨k + 1, by omega, by go_num, by rw [hs.out]⟩
      case measure => simp [intOf]; omega
    · go_wp2
      go_ret
      exact ⟨ret_int (sumL_end (by rw [hl'.out]; omega)), rfl⟩

end Go.Proofs.Ythiegfbdmmpabaa

/- What is proved here: what the program's and the model's HeadOf return. No conditions but lengths. -/
namespace Go.Proofs.Ythiegfbdmmpabaa
open Go.RowKit

def headP (ts : List Blk) (ss : List Int) (vs : List Vt) : Nat := headZ ts (getI (sub ts (wtsL ts ss vs))) 0
def headPR (ts : List Blk) (ss : List Int) (vs : List Vt) : Int := if poolOk ts ss vs = true then (headP ts ss vs : Nat) else 0
theorem head_of {ts : List Blk} {ss : List Int} {vs : List Vt} (h : poolOk ts ss vs = true) : headOK ts (wtsL ts ss vs) 0 = true ∧ headHR ts (wtsL ts ss vs) 0 = headPR ts ss vs := by
  have h1 : headOK ts (wtsL ts ss vs) 0 = true := by
    unfold headOK
    have := (poolOk_iff.1 h).1.1.1.pos
    rw [wts_own h, inB_true (Int.le_refl 0) (by omega)]; rfl
  refine ⟨h1, ?_⟩
  unfold headHR headPR headP
  rw [if_pos h1, if_pos h]; rfl

end Go.Proofs.Ythiegfbdmmpabaa

/- What is proved here: what the program's and the model's HeadWithin return. No conditions but lengths. -/
namespace Go.Proofs.Ythiegfbdmmpabaa
open Go.RowKit

def headWR (ts : List Blk) (ss : List Int) (vs : List Vt) (now keep : Int) : Int := if trimOK ts ss vs now keep = true then headPR ts ss (actR ts ss vs now keep) else 0
theorem act_pool {ts : List Blk} {ss : List Int} {vs : List Vt} {now keep : Int} (h : trimOK ts ss vs now keep = true) : poolOk ts ss (actR ts ss vs now keep) = true := by
  unfold actR
  rw [if_pos h]
  exact poolOk_filter (trimOK_iff.1 h).1 _

end Go.Proofs.Ythiegfbdmmpabaa

/- What is proved here: what the program's and the model's VotersFor return. No conditions but lengths. -/
namespace Go.Proofs.Ythiegfbdmmpabaa
open Go.RowKit

theorem ret_sl_bool {A : Option Addr} {n c : Nat} {b b' : Bool} (h : b = b') : Ending.returned (.tuple #[.slice A n c, .bool b]) = Ending.returned (.tuple #[.slice A n c, .bool b']) := by rw [h]
theorem ret_sl_len {A : Option Addr} {n n' c : Nat} (h : n = n') : Ending.returned (.tuple #[.slice A n c, .bool true]) = Ending.returned (.tuple #[.slice A n' c, .bool true]) := by rw [h]
theorem ok_yes {ts : List Blk} (ht : Tree ts) {k : Nat} (h : k < ts.length) : okK ts (k : Int) = true := okK_iff.2 ⟨ht, k, rfl, h⟩
theorem abv_yes {ts : List Blk} (ht : Tree ts) {a b : Nat} (ha : a < ts.length) (hb : b < ts.length) : abvR ts (a : Int) (b : Int) = abv ts a b ∧ abvOk ts (a : Int) (b : Int) = true := by
  have h1 := ok_yes ht ha
  have h2 := ok_yes ht hb
  have h3 : abvOk ts (a : Int) (b : Int) = true := by unfold abvOk; rw [h1, h2]; rfl
  refine ⟨?_, h3⟩
  unfold abvR; rw [h3, Int.toNat_natCast, Int.toNat_natCast]; rfl
theorem aboveX_any (A : Option Addr) (n c : Nat) (ts : List Blk) (a b : Nat) (w : World) (h : BlksAt w w.heap.size A n ts) (hn : n ≤ 1048576) (ht : Tree ts) (ha : a < ts.length) (hb : b < ts.length) {r : Bool} (hr : abv ts a b = r) :
    Calls Try.prog 108 #[.slice A n c, .int .i64 a, .int .i64 b] w (UpPost w (.tuple #[.bool r, .bool true])) := by
  have := implAbove_any A n c ts (a : Int) (b : Int) w h hn
  rw [(abv_yes ht ha hb).1, (abv_yes ht ha hb).2, hr] at this
  exact this

set_option maxRecDepth 100000 in
set_option maxHeartbeats 1600000 in
theorem implFor_any (A : Option Addr) (n c : Nat) (ts : List Blk) (A' : Option Addr) (n' c' : Nat) (ss : List Int) (V : Option Addr) (m d : Nat) (vs : List Vt) (b : Int) (w : World) (h : BlksAt w w.heap.size A n ts) (h' : IntsAt w w.heap.size A' n' ss) (hv : VotesAt w w.heap.size V m vs) (hn : n ≤ 1048576) (hn' : n' ≤ 1048576) (hm : m ≤ 1048576) :
    Calls Try.prog 66 #[.slice A n c, .slice A' n' c', .agg #[.slice V m d], .int .i64 b] w (RetOwn w (forOK ts ss vs b) (forR ts ss vs b)) := by
  have hl := Lib.hid h.1; have hl' := Lib.hid h'.1; have hlv := Lib.hid hv.1
  have hh := Lib.hid h; have hh' := Lib.hid h'; have hvv := Lib.hid hv; clear h h' hv
  have bx0 := Lib.hid (Bx.start w (.slice V m d) 55)
  have hc0 := bx0.out.cell
  cases hg : poolOk ts ss vs
  · have hfo := Lib.hid (show forOK ts ss vs b = false by unfold forOK; rw [hg]; rfl)
    have hr := Lib.hid (show forR ts ss vs b = [] by unfold forR; rw [if_neg (by rw [hfo.out]; decide)])
    go_enter Try.func66, Try.ntmps66
    go_wp2_with (go_at_call 59; refine (implLatest_any A n c ts A' n' c' ss V m d vs _ (hh.out.up bx0.out.below) (hh'.out.up' bx0.out.below) (hvv.out.up bx0.out.below) hn hn' hm).mono ?_; rw [hg]; rintro e w1 ⟨A1, n1, c1, rfl, o1, b1⟩; have bx1 := Lib.hid (bx0.out.step b1); clear o1 b1)
    go_ret2
    exact ⟨none, 0, 0, ret_sl_bool hfo.out.symm, by rw [hr.out]; exact own_nil _ _, bx1.out.below⟩
  · have ht := Lib.hid (poolOk_iff.1 hg).1.1.1
    have hlr := Lib.hid (show latR ts ss vs = latList vs by unfold latR; rw [hg, if_pos rfl])
    cases hk : okK ts b
    · have hfo := Lib.hid (show forOK ts ss vs b = false by
        cases hc : forOK ts ss vs b
        · rfl
        · obtain ⟨_, k, e, hk2⟩ := forOK_iff.1 hc
          rw [e, ok_yes ht.out hk2] at hk; cases hk)
      have hr := Lib.hid (show forR ts ss vs b = [] by unfold forR; rw [if_neg (by rw [hfo.out]; decide)])
      go_enter Try.func66, Try.ntmps66
      go_wp2_with (first
        | (go_at_call 59; refine (implLatest_any A n c ts A' n' c' ss V m d vs _ (hh.out.up bx0.out.below) (hh'.out.up' bx0.out.below) (hvv.out.up bx0.out.below) hn hn' hm).mono ?_; rw [hg]; rintro e w1 ⟨A1, n1, c1, rfl, o1, b1⟩; have bx1 := Lib.hid (bx0.out.step b1); clear o1 b1)
        | (go_at_call 90; refine (isBlock_ok _ _ _ ts _ _ (hh.out.up bx1.out.below) hn).mono ?_; rintro e w2 ⟨rfl, b2⟩; rw [hk]; have bx2 := Lib.hid (bx1.out.step b2); clear b2))
      go_ret2
      exact ⟨none, 0, 0, ret_sl_bool hfo.out.symm, by rw [hr.out]; exact own_nil _ _, bx2.out.below⟩
    · obtain ⟨_, q, rfl, hqn⟩ := okK_iff.1 hk
      have hfo := Lib.hid (show forOK ts ss vs (q : Int) = true from forOK_iff.2 ⟨hg, q, rfl, hqn⟩)
      have hr := Lib.hid (show forR ts ss vs (q : Int) = forL ts (latList vs) q by unfold forR; rw [if_pos hfo.out, Int.toNat_natCast])
      have hvo := Lib.hid (lat_of hg)
      have h60 := Lib.hid (lat_60 hg)
      obtain ⟨i0, hi, hz0, hz1, hz2⟩ := put_parts put_info3
      generalize latList vs = l at hlr hvo hr h60
      have hqn' := Lib.hid hqn
      clear hqn
      go_enter Try.func66, Try.ntmps66
      go_wp2_with (first
        | (go_at_call 59; refine (implLatest_any A n c ts A' n' c' ss V m d vs _ (hh.out.up bx0.out.below) (hh'.out.up' bx0.out.below) (hvv.out.up bx0.out.below) hn hn' hm).mono ?_; rw [hg, hlr.out]; rintro e w1 ⟨A1, n1, c1, rfl, o1, b1⟩; have bx1 := Lib.hid (bx0.out.step b1); have hl1 := Lib.hid o1.len; have hov := Lib.hid o1; clear o1 b1)
        | (go_at_call 90; refine (isBlock_ok _ _ _ ts _ _ (hh.out.up bx1.out.below) hn).mono ?_; rintro e w2 ⟨rfl, b2⟩; rw [hk]; have bx2 := Lib.hid (bx1.out.step b2); have hvl := Lib.hid ((hov.out.below b2).votes); clear b2 hov))
      have hn60 : n1 ≤ 60 := by rw [← hl1.out]; exact h60.out
      go_loopw [12, 14, 15, 16, 34] (fun o _ _ _ i wr => ∃ k : Nat, k ≤ n1 ∧ i = .int .i64 k ∧ Hid (wr.ownsRow w2.heap.size 3 1 o (forK ts l q k).length ((forK ts l q k).map (Value.int .i64))) ∧ Hid (Below w2.heap.size w2 wr)) (fun _ _ _ _ i _ => n1 - (intOf i).toNat)
      case atStart => exact ⟨0, Nat.zero_le _, rfl, Lib.hid (World.ownsRow_nil _ _ _ _), Lib.hid (Below.refl _ _)⟩
      case round =>
        obtain ⟨k, hkn, rfl, ho, hbel⟩ := hrel
        have hfl : (forK ts l q k).length ≤ n1 := by rw [← hl1.out]; exact forK_len ts l q k
        by_cases hlt : k < n1
        · obtain ⟨vb, vo, rfl, hvb, q0', q1', q2'⟩ := hvl.out.2 k hlt
          obtain ⟨⟨x, hx, hxm⟩, ⟨z, hzz, hzn⟩⟩ := hvo.out k (by rw [hl1.out]; exact hlt)
          have q0 := (hbel.out.cell (p := ⟨vb, vo + k * 3, none⟩) hvb).trans q0'
          have q1 := (hbel.out.cell (p := ⟨vb, vo + k * 3 + 1, none⟩) hvb).trans q1'
          have q2 := (hbel.out.cell (p := ⟨vb, vo + k * 3 + 2, none⟩) hvb).trans q2'
          rw [hx] at q0
          rw [hzz] at q2
          obtain ⟨y, hy⟩ : ∃ y, (getV l k).2.1 = y := ⟨_, rfl⟩
          rw [hy] at q1
          have hb1 := bx_below wr (.cells #[.int .i64 (x : Int), .int .i64 y, .int .i64 (z : Int)] 63)
          have r3 := three_cells wr (x : Int) y (z : Int) 63
          obtain ⟨W, hW⟩ : ∃ W, wr.alloc (.cells #[.int .i64 (x : Int), .int .i64 y, .int .i64 (z : Int)] 63) = W := ⟨_, rfl⟩
          rw [hW] at hb1 r3
          have e0 := r3.cell (i := 0) (by omega)
          have e2 := r3.cell (i := 2) (by omega)
          simp only [if_true, if_false, show (2 : Nat) ≠ 0 by decide, show (2 : Nat) ≠ 1 by decide] at e0 e2
          have hW' := Lib.hid hW
          have E0 := Lib.hid e0
          have vl := Lib.hid r3.lt
          have u1 := Lib.hid (hbel.out.trans (hb1.mono hbel.out.size))
          have o1 := Lib.hid (owns_belowV ho.out hb1)
          have hht := Lib.hid ((hh.out.up bx2.out.below).up u1.out)
          have hstep := Lib.hid (forK_step (ts := ts) (b := q) (l := l) (k := k) (by rw [hl1.out]; exact hlt))
          have hpz := Lib.hid (show forP ts q (getV l k) = abv ts q z by unfold forP; rw [hzz, Int.toNat_natCast])
          have hxx := Lib.hid hx
          have hzn' := Lib.hid hzn
          clear hW hb1 r3 q0' q1' q2' hx hzz hy e0 hzn
          cases hab : abv ts q z
          · have hnx := Lib.hid (show forK ts l q (k + 1) = forK ts l q k by rw [hstep.out, hpz.out, hab]; rfl)
            go_wp2_with fail
            rw [hW'.out]
            go_wp2_with (go_at_call 108; refine (aboveX_any _ n c ts q z _ hht.out hn ht.out hqn'.out hzn'.out hab).mono ?_; rintro e w3 ⟨rfl, b3⟩; have u3 := Lib.hid (u1.out.trans (b3.mono u1.out.size)); have o3 := Lib.hid (owns_belowV o1.out b3); clear b3)
            go_roundw
            case rel => exact ⟨k + 1, by omega, by go_num, Lib.hid (by rw [hnx.out]; exact o3.out), u3⟩
            case measure => simp [intOf]; omega
          · have hnx := Lib.hid (show forK ts l q (k + 1) = forK ts l q k ++ [(x : Int)] by rw [hstep.out, hpz.out, hab, if_pos rfl, hxx.out])
            go_wp2_with fail
            rw [hW'.out]
            go_wp2_with (first
              | (go_at_call 108; refine (aboveX_any _ n c ts q z _ hht.out hn ht.out hqn'.out hzn'.out hab).mono ?_; rintro e w3 ⟨rfl, b3⟩; have u3 := Lib.hid (u1.out.trans (b3.mono u1.out.size)); have o3 := Lib.hid (owns_belowV o1.out b3); have e3 := (b3.cell (p := ⟨wr.heap.size, 0, none⟩) vl.out).trans E0.out; have s3 := u3.out.size; clear b3)
              | (at_builtin; refine appendV _ rfl _ _ 23 rfl w2.heap.size i0 Try.underlying23 hi hz0 hz1 hz2 _ (forK ts l q k) rfl (o3.out.alloc _) w3.heap.size 0 1 (x : Int) rfl ((bx_row w3 (.int .i64 (x : Int)) 3).cell (i := 0) (by omega)) (by omega) (by simp; omega) ?_; intro g c9 w9 r1 r2 r9; have z1 := Lib.hid r1; have z2 := Lib.hid r2; clear r1 r2 r9))
            have u9 := Lib.hid (show Below w2.heap.size w2 w9 from (u3.out.alloc s3 (.cells #[.int .i64 (x : Int)] 3)).grown z2.out (by simp; omega) (fun j e => ((o3.out.alloc (.cells #[.int .i64 (x : Int)] 3)).lt j e).1))
            go_roundw
            case rel => exact ⟨k + 1, by omega, by go_num, Lib.hid (by rw [hnx.out]; simpa using z1.out), u9⟩
            case measure => simp [intOf]; omega
        · have hke := Lib.hid (show forK ts l q k = forL ts l q from forK_end (by rw [hl1.out]; omega))
          have u9 := Lib.hid (bx2.out.below.trans (hbel.out.mono bx2.out.below.size))
          have hsz := bx2.out.below.size
          go_wp2_with fail
          go_ret2
          obtain ⟨A6, c6, e6, o6⟩ := OwnAt.of_owns ho.out
          rw [hke.out] at e6 o6
          refine ⟨A6, _, c6, by rw [hfo.out, e6]; rfl, ?_, u9.out⟩
          rw [hr.out]; exact o6.fewer hsz

set_option maxRecDepth 100000 in
set_option maxHeartbeats 1600000 in
theorem l6For_any (A : Option Addr) (n c : Nat) (ts : List Blk) (V : Option Addr) (n1 d : Nat) (l : List Vt) (q : Nat) (w : World) (h : BlksAt w w.heap.size A n ts) (hv : VotesAt w w.heap.size V n1 l) (hn : n ≤ 1048576) (ht0 : Tree ts) {m' : Nat} (hvo0 : VotesOf ts.length m' l) (h600 : l.length ≤ 60) (hup0 : WhoUp l) (_hq : q < ts.length) :
    Calls Try.prog 133 #[.slice A n c, .slice V n1 d, .int .i64 q] w (RetSl w (forL ts l q)) := by
  have hl1 := Lib.hid hv.1
  have hh := Lib.hid h; have hvl := Lib.hid hv; have hvo := Lib.hid hvo0; have ht := Lib.hid ht0; have hup := Lib.hid hup0
  have hn60 : n1 ≤ 60 := by rw [← hl1.out]; exact h600
  clear h hv hvo0 ht0 hup0 h600
  go_enter Try.func133, Try.ntmps133
  go_wp2_with fail
  go_loopw [7, 9, 12] (fun o _ i wr => ∃ k : Nat, k ≤ n1 ∧ i = .int .i64 k ∧ Hid (wr.ownsRow w.heap.size 3 1 o (forK ts l q k).length ((forK ts l q k).map (Value.int .i64))) ∧ Hid (Below w.heap.size w wr)) (fun _ _ i _ => n1 - (intOf i).toNat)
  case atStart => exact ⟨0, Nat.zero_le _, rfl, Lib.hid (World.ownsRow_nil _ _ _ _), Lib.hid (Below.refl _ _)⟩
  case round =>
    obtain ⟨k, hkn, rfl, ho, hbel⟩ := hrel
    have hfl := Lib.hid (forK_len ts l q k)
    by_cases hlt : k < n1
    · obtain ⟨vb, vo, rfl, hvb, q0', q1', q2'⟩ := hvl.out.2 k hlt
      obtain ⟨⟨x, hx, hxm⟩, ⟨z, hzz, hzn⟩⟩ := hvo.out k (by rw [hl1.out]; exact hlt)
      have q0 := (hbel.out.cell (p := ⟨vb, vo + k * 3, none⟩) hvb).trans q0'
      have q1 := (hbel.out.cell (p := ⟨vb, vo + k * 3 + 1, none⟩) hvb).trans q1'
      have q2 := (hbel.out.cell (p := ⟨vb, vo + k * 3 + 2, none⟩) hvb).trans q2'
      rw [hx] at q0
      rw [hzz] at q2
      obtain ⟨y, hy⟩ : ∃ y, (getV l k).2.1 = y := ⟨_, rfl⟩
      rw [hy] at q1
      have hb1 := bx_below wr (.cells #[.int .i64 (x : Int), .int .i64 y, .int .i64 (z : Int)] 63)
      have r3 := three_cells wr (x : Int) y (z : Int) 63
      obtain ⟨W, hW⟩ : ∃ W, wr.alloc (.cells #[.int .i64 (x : Int), .int .i64 y, .int .i64 (z : Int)] 63) = W := ⟨_, rfl⟩
      rw [hW] at hb1 r3
      have e0 := r3.cell (i := 0) (by omega)
      have e2 := r3.cell (i := 2) (by omega)
      simp only [if_true, if_false, show (2 : Nat) ≠ 0 by decide, show (2 : Nat) ≠ 1 by decide] at e0 e2
      have hW' := Lib.hid hW
      have E0 := Lib.hid e0
      have vl := Lib.hid r3.lt
      have u1 := Lib.hid (hbel.out.trans (hb1.mono hbel.out.size))
      have o1 := Lib.hid (owns_belowV ho.out hb1)
      have hht := Lib.hid (hh.out.up u1.out)
      have hstep := Lib.hid (forK_step (ts := ts) (b := q) (l := l) (k := k) (by rw [hl1.out]; exact hlt))
      have hpz := Lib.hid (show forP ts q (getV l k) = abv ts q z by unfold forP; rw [hzz, Int.toNat_natCast])
      have hput := Lib.hid (forK_put (ts := ts) (b := q) hup.out (k := k) (by rw [hl1.out]; exact hlt))
      have hxx := Lib.hid hx
      have hzn' := Lib.hid hzn
      clear hW hb1 r3 q0' q1' q2' hx hzz hy e0 hzn
      cases hab : abv ts q z
      · have hnx := Lib.hid (show forK ts l q (k + 1) = forK ts l q k by rw [hstep.out, hpz.out, hab]; rfl)
        have hac := Lib.hid (fun W' (hb : BlksAt W' W'.heap.size A n ts) => l3Above_any A n c ts q z W' hb hn ht.out hzn'.out)
        rw [hab] at hac
        go_wp2_with fail
        rw [hW'.out]
        go_wp2_with (go_at_call 107; refine (hac.out _ hht.out).mono ?_; rintro e w3 ⟨rfl, b3⟩; have u3 := Lib.hid (u1.out.trans (b3.mono u1.out.size)); have o3 := Lib.hid (owns_belowV o1.out b3); clear b3)
        go_roundw
        case rel => exact ⟨k + 1, by omega, by go_num, Lib.hid (by rw [hnx.out]; exact o3.out), u3⟩
        case measure => simp [intOf]; omega
      · have hnx := Lib.hid (show forK ts l q (k + 1) = putL (forK ts l q k) (x : Int) by rw [← hxx.out, hput.out, hstep.out, hpz.out, hab, if_pos rfl])
        have hac := Lib.hid (fun W' (hb : BlksAt W' W'.heap.size A n ts) => l3Above_any A n c ts q z W' hb hn ht.out hzn'.out)
        rw [hab] at hac
        go_wp2_with fail
        rw [hW'.out]
        go_wp2_with (first
          | (go_at_call 107; refine (hac.out _ hht.out).mono ?_; rintro e w3 ⟨rfl, b3⟩; have u3 := Lib.hid (u1.out.trans (b3.mono u1.out.size)); have o3 := Lib.hid (owns_belowV o1.out b3); have e3 := (b3.cell (p := ⟨wr.heap.size, 0, none⟩) vl.out).trans E0.out; clear b3)
          | (go_at_call 117; refine (l1Put_any _ (forK ts l q k) (x : Int) w.heap.size _ o3.out (by have := hfl.out; have := hl1.out; omega) u3.out.size).mono ?_; rintro e w4 ⟨v4, rfl, r4, b4⟩; have z1 := Lib.hid r4; have u4 := Lib.hid (u3.out.trans (b4.mono u3.out.size)); clear r4 b4))
        go_roundw
        case rel => exact ⟨k + 1, by omega, by go_num, Lib.hid (by rw [hnx.out]; exact z1.out), u4⟩
        case measure => simp [intOf]; omega
    · have hke := Lib.hid (show forK ts l q k = forL ts l q from forK_end (by rw [hl1.out]; omega))
      go_wp2_with fail
      go_ret
      obtain ⟨A6, c6, e6, o6⟩ := OwnAt.of_owns ho.out
      rw [hke.out] at e6 o6
      exact ⟨A6, _, c6, by rw [e6]; rfl, o6, hbel.out⟩

set_option maxRecDepth 100000 in
set_option maxHeartbeats 1600000 in
theorem specFor_any (A : Option Addr) (n c : Nat) (ts : List Blk) (A' : Option Addr) (n' c' : Nat) (ss : List Int) (V : Option Addr) (m d : Nat) (vs : List Vt) (b : Int) (w : World) (h : BlksAt w w.heap.size A n ts) (h' : IntsAt w w.heap.size A' n' ss) (hv : VotesAt w w.heap.size V m vs) (hn : n ≤ 1048576) (hn' : n' ≤ 1048576) (hm : m ≤ 1048576) :
    Calls Try.prog 68 #[.slice A n c, .slice A' n' c', .agg #[.slice V m d], .int .i64 b] w (RetOwn w (forOK ts ss vs b) (forR ts ss vs b)) := by
  have hl := Lib.hid h.1; have hl' := Lib.hid h'.1; have hlv := Lib.hid hv.1
  have hh := Lib.hid h; have hh' := Lib.hid h'; have hvv := Lib.hid hv; clear h h' hv
  have bx0 := Lib.hid (Bx.start w (.slice V m d) 55)
  have hc0 := bx0.out.cell
  cases hg : poolOk ts ss vs
  · have hfo := Lib.hid (show forOK ts ss vs b = false by unfold forOK; rw [hg]; rfl)
    have hr := Lib.hid (show forR ts ss vs b = [] by unfold forR; rw [if_neg (by rw [hfo.out]; decide)])
    go_enter Try.func68, Try.ntmps68
    go_wp2_with (go_at_call 112; refine (specGoodPool_any A n c ts A' n' c' ss V m d vs _ (hh.out.up bx0.out.below) (hh'.out.up' bx0.out.below) (hvv.out.up bx0.out.below) hn hn' hm).mono ?_; rintro e w1 ⟨rfl, b1⟩; rw [hg]; have bx1 := Lib.hid (bx0.out.step b1); clear b1)
    go_ret2
    exact ⟨none, 0, 0, ret_sl_bool hfo.out.symm, by rw [hr.out]; exact own_nil _ _, bx1.out.below⟩
  · have ht := Lib.hid (poolOk_iff.1 hg).1.1.1
    by_cases h1 : b < 0
    · have hfo := Lib.hid (show forOK ts ss vs b = false by unfold forOK; rw [inB_low h1]; simp)
      have hr := Lib.hid (show forR ts ss vs b = [] by unfold forR; rw [if_neg (by rw [hfo.out]; decide)])
      go_enter Try.func68, Try.ntmps68
      go_wp2_with (go_at_call 112; refine (specGoodPool_any A n c ts A' n' c' ss V m d vs _ (hh.out.up bx0.out.below) (hh'.out.up' bx0.out.below) (hvv.out.up bx0.out.below) hn hn' hm).mono ?_; rintro e w1 ⟨rfl, b1⟩; rw [hg]; have bx1 := Lib.hid (bx0.out.step b1); clear b1)
      go_ret2
      exact ⟨none, 0, 0, ret_sl_bool hfo.out.symm, by rw [hr.out]; exact own_nil _ _, bx1.out.below⟩
    · by_cases h2 : (n : Int) ≤ b
      · have hfo := Lib.hid (show forOK ts ss vs b = false by unfold forOK; rw [inB_high (by rw [hl.out]; omega)]; simp)
        have hr := Lib.hid (show forR ts ss vs b = [] by unfold forR; rw [if_neg (by rw [hfo.out]; decide)])
        go_enter Try.func68, Try.ntmps68
        go_wp2_with (go_at_call 112; refine (specGoodPool_any A n c ts A' n' c' ss V m d vs _ (hh.out.up bx0.out.below) (hh'.out.up' bx0.out.below) (hvv.out.up bx0.out.below) hn hn' hm).mono ?_; rintro e w1 ⟨rfl, b1⟩; rw [hg]; have bx1 := Lib.hid (bx0.out.step b1); clear b1)
        go_ret2
        exact ⟨none, 0, 0, ret_sl_bool hfo.out.symm, by rw [hr.out]; exact own_nil _ _, bx1.out.below⟩
      · obtain ⟨q, rfl⟩ := Int.eq_ofNat_of_zero_le (show 0 ≤ b by omega)
        have hqn := Lib.hid (show q < ts.length by rw [hl.out]; omega)
        have hfo := Lib.hid (show forOK ts ss vs (q : Int) = true from forOK_iff.2 ⟨hg, q, rfl, hqn.out⟩)
        have hr := Lib.hid (show forR ts ss vs (q : Int) = forL ts (latList vs) q by unfold forR; rw [if_pos hfo.out, Int.toNat_natCast])
        have hvo := Lib.hid (lat_of hg)
        have h60 := Lib.hid (lat_60 hg)
        have hup := Lib.hid (lat_up hg)
        have hll := Lib.hid (show latL vs (putsL vs m) m = latList vs by unfold latList; rw [hlv.out])
        have hm60 : m ≤ 60 := by rw [← hlv.out]; exact (poolOk_iff.1 hg).1.2
        go_enter Try.func68, Try.ntmps68
        go_wp2_with (first
          | (go_at_call 112; refine (specGoodPool_any A n c ts A' n' c' ss V m d vs _ (hh.out.up bx0.out.below) (hh'.out.up' bx0.out.below) (hvv.out.up bx0.out.below) hn hn' hm).mono ?_; rintro e w1 ⟨rfl, b1⟩; rw [hg]; have bx1 := Lib.hid (bx0.out.step b1); have hc1 := bx1.out.cell; clear b1)
          | (go_at_call 129; refine (l6Latest_any V m d vs _ (hvv.out.up bx1.out.below) hm60).mono ?_; rw [hll.out]; rintro e w2 ⟨A2, n2, c2, rfl, o2, b2⟩; have o2' := Lib.hid o2.votes; have bx2 := Lib.hid (bx1.out.step b2); clear o2 b2)
          | (go_at_call 133; refine (l6For_any A n c ts A2 n2 c2 (latList vs) q _ (hh.out.up bx2.out.below) o2'.out hn ht.out hvo.out h60.out hup.out hqn.out).mono ?_; rintro e w3 ⟨A3, n3, c3, rfl, o3, b3⟩; have o3' := Lib.hid (o3.fewer bx2.out.below.size); have bx3 := Lib.hid (bx2.out.step b3); clear o3 b3))
        go_ret2
        exact ⟨A3, n3, c3, ret_sl_bool hfo.out.symm, by rw [hr.out]; exact o3'.out, bx3.out.below⟩
end Go.Proofs.Ythiegfbdmmpabaa

/- What is proved here: plain facts on the votes that count in a slot: those whose period holds the slot, and none of them is of a voter that is asleep. No conditions. -/
namespace Go.Proofs.Ythiegfbdmmpabaa
open Go.RowKit

theorem getV_mem {l : List Vt} {k : Nat} (h : k < l.length) : getV l k ∈ l := by
  unfold getV; rw [List.getElem?_eq_getElem h, Option.getD_some]; exact List.getElem_mem h
theorem mem_getV {l : List Vt} {v : Vt} (h : v ∈ l) : ∃ k, k < l.length ∧ getV l k = v := by
  obtain ⟨j, hj, e⟩ := List.mem_iff_getElem.1 h
  exact ⟨j, hj, by unfold getV; rw [List.getElem?_eq_getElem hj, Option.getD_some, e]⟩
/-- A vote counts from behind its slot on until it runs out. -/
theorem runs_wit {ts : List Blk} {ss : List Int} {vs : List Vt} {now keep : Int} (h : trimOK ts ss vs now keep = true) {v : Vt} (hv : v ∈ vs) :
    runB v.2.1 keep = true ∧ runR v.2.1 keep = v.2.1 + keep + 1 ∧ witP (now - keep) now v = (decide (v.2.1 < now) && decide (now < v.2.1 + keep + 1)) := by
  obtain ⟨h1, h2, h3⟩ := trimOK_iff.1 h
  have hs := slot_in h1 hv
  have hr : runB v.2.1 keep = true := run_iff.2 ⟨hs, h3⟩
  refine ⟨hr, by unfold runR; rw [if_pos hr], ?_⟩
  unfold witP
  rw [Bool.and_comm]
  congr 1
  exact decide_eq_decide.2 (by omega)
theorem act_awake {ts : List Blk} {ss : List Int} {vs : List Vt} {now keep : Int} (h : trimOK ts ss vs now keep = true) {v : Vt} (hv : v ∈ vs) (hw : witP (now - keep) now v = true) : decide (v.1 ∈ asleepR ts ss vs now keep) = false := by
  refine decide_eq_false fun hm => ?_
  unfold asleepR at hm
  rw [if_pos h] at hm
  obtain ⟨i, e, _, hp⟩ := slpK_mem.1 hm
  unfold slpP at hp
  rw [Bool.and_eq_true, Bool.not_eq_true', decide_eq_false_iff_not] at hp
  have ha : v ∈ actR ts ss vs now keep := by unfold actR; rw [if_pos h]; exact List.mem_filter.2 ⟨hv, hw⟩
  obtain ⟨k, hk, e2⟩ := mem_getV ha
  exact hp.2 ((cnt_pos _).2 ⟨k, hk, by rw [e2, e]⟩)
theorem fin_trim {ts : List Blk} {ss : List Int} {vs : List Vt} {now keep : Int} (h : trimOK ts ss vs now keep = true) : finOK ts ss vs now = true ∧ trimOK ts ss (finR ts ss vs now) now keep = true ∧ trimR ts ss (finR ts ss vs now) now keep = actR ts ss vs now keep := by
  obtain ⟨h1, h2, h3⟩ := trimOK_iff.1 h
  have hf : finOK ts ss vs now = true := finOK_iff.2 ⟨h1, h2⟩
  have e : finR ts ss vs now = vs.filter (finP now) := by unfold finR; rw [if_pos hf]
  have ht : trimOK ts ss (finR ts ss vs now) now keep = true := trimOK_iff.2 ⟨by rw [e]; exact poolOk_filter h1 _, h2, h3⟩
  refine ⟨hf, ht, ?_⟩
  unfold trimR actR
  rw [if_pos ht, if_pos h, e, List.filter_filter]
  rfl
theorem act_count {ts : List Blk} {ss : List Int} {vs : List Vt} {now keep : Int} (h : trimOK ts ss vs now keep = true) : ((vs.take vs.length).filter (witP (now - keep) now)).length = (actR ts ss vs now keep).length := by
  unfold actR; rw [if_pos h, List.take_length]
end Go.Proofs.Ythiegfbdmmpabaa

/- What is proved here: plain facts on the last votes of a pool: a liar has none, no vote of the same voter is later, the weights are the stakes of those voters; and what the laws' sum returns at numbers of up to a million. No conditions but the pool's validity. -/
namespace Go.Proofs.Ythiegfbdmmpabaa
open Go.RowKit

theorem lat_latest {ts : List Blk} {ss : List Int} {vs : List Vt} (h : poolOk ts ss vs = true) {j : Nat} (hj : j < (latList vs).length) {q : Nat} (hq : q < vs.length) (e : (getV vs q).1 = (getV (latList vs) j).1) : (getV vs q).2.1 ≤ (getV (latList vs) j).2.1 := by
  have hs := (poolOk_iff.1 h).2.2
  obtain ⟨i, hi, e2, _, hl⟩ := (latL_mem _).1 (show getV (latList vs) j ∈ latL vs (putsL vs vs.length) vs.length from getV_mem hj)
  rw [← e2] at e ⊢
  rcases Nat.lt_trichotomy q i with h1 | h1 | h1
  · have h2 := less_iff.1 (adj_lt hs i h1 hi)
    omega
  · subst h1; exact Int.le_refl _
  · exact absurd e (last_only hs hl q h1 hq)
theorem lat_noliar {vs : List Vt} {j : Nat} (hj : j < (latList vs).length) : decide ((getV (latList vs) j).1 ∈ putsL vs vs.length) = false := by
  obtain ⟨i, hi, e2, hc, _⟩ := (latL_mem _).1 (show getV (latList vs) j ∈ latL vs (putsL vs vs.length) vs.length from getV_mem hj)
  refine decide_eq_false fun hm => ?_
  rw [List.contains_iff_mem.2 hm] at hc; cases hc
theorem lat_rise {ts : List Blk} {ss : List Int} {vs : List Vt} (h : poolOk ts ss vs = true) {j : Nat} (hj : j < (latList vs).length) (h0 : 0 < j) : (getV (latList vs) (j - 1)).1 < (getV (latList vs) j).1 := by
  have h1 := List.pairwise_iff_getElem.1 (lat_up h) (j - 1) j (by simp; omega) (by simp; omega) (by omega)
  rw [List.getElem_map, List.getElem_map] at h1
  rw [getV_at hj, getV_at (show j - 1 < (latList vs).length by omega)]
  exact h1
theorem lat_wts {ts : List Blk} {ss : List Int} {vs : List Vt} (h : poolOk ts ss vs = true) : sumL (wtsL ts ss vs) = totK ss (latList vs) (latList vs).length :=
  wts_tot (lat_of h) (bds_of_good (poolOk_iff.1 h).1.1.2) (lat_60 h) _ (Nat.le_refl _)
theorem lat_for {ts : List Blk} {ss : List Int} {vs : List Vt} (h : poolOk ts ss vs = true) : forOK ts ss vs 0 = true ∧ (forR ts ss vs 0).length = (latList vs).length := by
  have ht := (poolOk_iff.1 h).1.1.1
  have ho : forOK ts ss vs 0 = true := forOK_iff.2 ⟨h, 0, rfl, ht.pos⟩
  refine ⟨ho, ?_⟩
  unfold forR
  rw [if_pos ho]
  unfold forL
  rw [List.length_map, List.filter_eq_self.2]
  intro v hv
  obtain ⟨j, hj, e⟩ := mem_getV hv
  obtain ⟨_, b, hb, hbt⟩ := lat_of h j hj
  unfold forP
  rw [← e, hb, Int.toNat_natCast]
  exact abv_root ht hbt

/-- Numbers of up to a million. -/
def Mil (xs : List Int) : Prop := ∀ k, k < xs.length → 0 ≤ xs[k]?.getD 0 ∧ xs[k]?.getD 0 ≤ 1000000
theorem mil_wts {ts : List Blk} {ss : List Int} {vs : List Vt} (h : poolOk ts ss vs = true) : Mil (wtsL ts ss vs) := fun k _ => by
  have := wts_bd h k
  unfold getI at this; omega
set_option maxHeartbeats 400000 in
theorem lawSumM_any (A : Option Addr) (n c B : Nat) (xs : List Int) (w : World) (h : IntsAt w B A n xs) (hn : n ≤ 1048576) (hb : Mil xs) :
    Calls Try.prog 65 #[.slice A n c] w fun e w' => e = .returned (.int .i64 (sumL xs)) ∧ w = w' := by
  have hl' := Lib.hid h.1
  have hr := Lib.hid h; clear h
  have hb' := Lib.hid hb; clear hb
  go_enter Try.func65, Try.ntmps65
  go_wp2
  go_loop [3, 8] (fun s i => ∃ k : Nat, k ≤ n ∧ i = .int .i64 k ∧ s = .int .i64 (sumL (xs.take k))) (fun _ i => n - (intOf i).toNat)
  case atStart => exact ⟨0, Nat.zero_le _, rfl, rfl⟩
  case round =>
    obtain ⟨k, hk, rfl, rfl⟩ := hrel
    by_cases hlt : k < n
    · obtain ⟨b, off, rfl, _, hc⟩ := hr.out.2 k hlt
      have hs := Lib.hid (sumL_step (s := xs) (k := k) (by rw [hl'.out]; exact hlt))
      obtain ⟨g1, g2⟩ := sumL_bd hb'.out k (by rw [hl'.out]; exact hk)
      obtain ⟨g3, g4⟩ := hb'.out k (by rw [hl'.out]; exact hlt)
      go_wp2
      go_round
      case rel => exact ⟨k + 1, by omega, by go_num, by rw [hs.out]⟩
      case measure => simp [intOf]; omega
    · go_wp2
      go_ret
      exact ⟨ret_int (sumL_end (by rw [hl'.out]; omega)), rfl⟩
end Go.Proofs.Ythiegfbdmmpabaa

/- What is proved here: the law FnLatest returns true at every two slices of bytes, and writes nothing that was there. No conditions. Written by mk/mkfnlatest.py. -/
namespace Go.Proofs.Ythiegfbdmmpabaa
open Go.RowKit

set_option maxHeartbeats 12800000 in
set_option maxRecDepth 100000 in
theorem lawLatest (A A' : Option Addr) (n n' c c' : Nat) (w : World) (h : BytesIn w A n) (h' : BytesIn w A' n') (hr : n ≤ 140737488351232) (hr' : n' ≤ 140737488351232) :
    Calls Try.prog 12 #[.slice A n c, .slice A' n' c'] w fun e w' => e = .returned (.bool true) ∧ Below w.heap.size w w' := by
  by_cases hlen : n + n' ≤ 1048576
  · have hlen' : ¬ (1048576 : Int) < (n : Int) + (n' : Int) := by omega
    have h2' := Lib.hid h'
    clear h'
    go_enter Try.func12, Try.ntmps12
    go_wp2_with fail
    refine (drawLatest_any A n c w h (by omega)).mono ?_
    rintro e w80 ⟨A1, n1, c1, ts, A2, n2, c2, ss, V, m, d, vs, rfl, P1, _, b1⟩
    have hn1 : n1 ≤ 1048576 := by have := P1.hn; omega
    have hn2 : n2 ≤ 1048576 := by have := P1.hn'; omega
    have hm : m ≤ 1048576 := by have := P1.hm; omega
    have kx := bx_below w80 (.cells #[.slice V m d] 55)
    have x := Lib.hid (bx_row w80 (.slice V m d) 55)
    have p := Lib.hid (P1.up kx)
    have u := Lib.hid (b1.trans (kx.mono b1.size))
    clear P1 b1 kx
    have hx := x.out.cell (i := 0) (by omega)
    clear h
    have hL1 := latR_len ts ss vs; have hL2 := liarsR_len ts ss vs; have hL3 := wR_len ts ss vs
    obtain ⟨ok, hok⟩ : ∃ b, Hid (poolOk ts ss vs = b) := ⟨_, Lib.hid rfl⟩
    have hq1 : (ok != ok) = false := by simp
    go_wp2_with fail
    refine (implLatest_any A1 n1 c1 ts A2 n2 c2 ss V m d vs _ p.out.blk p.out.int p.out.vot hn1 hn2 hm).mono ?_
    rintro e w1 ⟨A3, n3, c3, rfl, o3, b1⟩
    rw [hok.out]
    replace u := Lib.hid (u.out.trans (b1.mono u.out.size))
    clear hx
    replace p := Lib.hid (p.out.up b1)
    replace x := Lib.hid (rowIs_below x.out b1 x.out.lt)
    have hx := x.out.cell (i := 0) (by omega)
    clear b1
    have v3 := Lib.hid o3.votes; have l3 := Lib.hid o3.len
    clear o3
    go_wp2_with fail
    refine (specLatest_any A1 n1 c1 ts A2 n2 c2 ss V m d vs _ p.out.blk p.out.int p.out.vot hn1 hn2 hm).mono ?_
    rintro e w2 ⟨A4, n4, c4, rfl, o4, b2⟩
    rw [hok.out]
    replace u := Lib.hid (u.out.trans (b2.mono u.out.size))
    clear hx
    replace p := Lib.hid (p.out.up b2)
    replace x := Lib.hid (rowIs_below x.out b2 x.out.lt)
    replace v3 := Lib.hid (v3.out.up b2)
    have hx := x.out.cell (i := 0) (by omega)
    clear b2
    have v4 := Lib.hid o4.votes; have l4 := Lib.hid o4.len
    clear o4
    go_wp2_with fail
    refine (implLiars_any A1 n1 c1 ts A2 n2 c2 ss V m d vs _ p.out.blk p.out.int p.out.vot hn1 hn2 hm).mono ?_
    rintro e w3 ⟨A5, n5, c5, rfl, o5, b3⟩
    rw [hok.out]
    replace u := Lib.hid (u.out.trans (b3.mono u.out.size))
    clear hx
    replace p := Lib.hid (p.out.up b3)
    replace x := Lib.hid (rowIs_below x.out b3 x.out.lt)
    replace v3 := Lib.hid (v3.out.up b3)
    replace v4 := Lib.hid (v4.out.up b3)
    have hx := x.out.cell (i := 0) (by omega)
    clear b3
    have i5 := Lib.hid o5.ints; have l5 := Lib.hid o5.len
    clear o5
    go_wp2_with fail
    refine (specLiars_any A1 n1 c1 ts A2 n2 c2 ss V m d vs _ p.out.blk p.out.int p.out.vot hn1 hn2 hm).mono ?_
    rintro e w4 ⟨A6, n6, c6, rfl, o6, b4⟩
    rw [hok.out]
    replace u := Lib.hid (u.out.trans (b4.mono u.out.size))
    clear hx
    replace p := Lib.hid (p.out.up b4)
    replace x := Lib.hid (rowIs_below x.out b4 x.out.lt)
    replace v3 := Lib.hid (v3.out.up b4)
    replace v4 := Lib.hid (v4.out.up b4)
    replace i5 := Lib.hid (i5.out.up' b4)
    have hx := x.out.cell (i := 0) (by omega)
    clear b4
    have i6 := Lib.hid o6.ints; have l6 := Lib.hid o6.len
    clear o6
    go_wp2_with fail
    refine (implWeigh_any A1 n1 c1 ts A2 n2 c2 ss V m d vs _ p.out.blk p.out.int p.out.vot hn1 hn2 hm).mono ?_
    rintro e w5 ⟨A7, n7, c7, rfl, o7, b5⟩
    rw [hok.out]
    replace u := Lib.hid (u.out.trans (b5.mono u.out.size))
    clear hx
    replace p := Lib.hid (p.out.up b5)
    replace x := Lib.hid (rowIs_below x.out b5 x.out.lt)
    replace v3 := Lib.hid (v3.out.up b5)
    replace v4 := Lib.hid (v4.out.up b5)
    replace i5 := Lib.hid (i5.out.up' b5)
    replace i6 := Lib.hid (i6.out.up' b5)
    have hx := x.out.cell (i := 0) (by omega)
    clear b5
    have i7 := Lib.hid o7.ints; have l7 := Lib.hid o7.len
    clear o7
    go_wp2_with fail
    refine (specWeigh_any A1 n1 c1 ts A2 n2 c2 ss V m d vs _ p.out.blk p.out.int p.out.vot hn1 hn2 hm).mono ?_
    rintro e w6 ⟨A8, n8, c8, rfl, o8, b6⟩
    rw [hok.out]
    replace u := Lib.hid (u.out.trans (b6.mono u.out.size))
    clear hx
    replace p := Lib.hid (p.out.up b6)
    replace x := Lib.hid (rowIs_below x.out b6 x.out.lt)
    replace v3 := Lib.hid (v3.out.up b6)
    replace v4 := Lib.hid (v4.out.up b6)
    replace i5 := Lib.hid (i5.out.up' b6)
    replace i6 := Lib.hid (i6.out.up' b6)
    replace i7 := Lib.hid (i7.out.up' b6)
    have hx := x.out.cell (i := 0) (by omega)
    clear b6
    have i8 := Lib.hid o8.ints; have l8 := Lib.hid o8.len
    clear o8
    have hn3 : n3 ≤ 1048576 := by have := l3.out; omega
    have hn4 : n4 ≤ 1048576 := by have := l4.out; omega
    have hn5 : n5 ≤ 1048576 := by have := l5.out; omega
    have hn6 : n6 ≤ 1048576 := by have := l6.out; omega
    have hn7 : n7 ≤ 1048576 := by have := l7.out; omega
    have hn8 : n8 ≤ 1048576 := by have := l8.out; omega
    go_wp2_with fail
    refine (sameVotes_any A3 A4 n3 n4 c3 c4 _ (latR ts ss vs) _ v3.out v4.out hn3).mono ?_
    rintro e w7 ⟨rfl, dr7, hw7⟩
    have b7 := drew_below hw7
    clear hw7
    replace u := Lib.hid (u.out.trans (b7.mono u.out.size))
    clear hx
    replace p := Lib.hid (p.out.up b7)
    replace x := Lib.hid (rowIs_below x.out b7 x.out.lt)
    replace v3 := Lib.hid (v3.out.up b7)
    replace v4 := Lib.hid (v4.out.up b7)
    replace i5 := Lib.hid (i5.out.up' b7)
    replace i6 := Lib.hid (i6.out.up' b7)
    replace i7 := Lib.hid (i7.out.up' b7)
    replace i8 := Lib.hid (i8.out.up' b7)
    have hx := x.out.cell (i := 0) (by omega)
    clear b7
    have hs1 := Lib.hid (eqB_yes (xs := liarsR ts ss vs) (ys := liarsR ts ss vs) rfl (fun _ _ => rfl))
    go_wp2_with fail
    refine (sameInts_any A5 A6 n5 n6 c5 c6 _ (liarsR ts ss vs) (liarsR ts ss vs) _ i5.out i6.out hn5 hn6).mono ?_
    rintro e w8 ⟨rfl, dr8, hw8⟩
    have b8 := drew_below hw8
    clear hw8
    rw [hs1.out]
    replace u := Lib.hid (u.out.trans (b8.mono u.out.size))
    clear hx
    replace p := Lib.hid (p.out.up b8)
    replace x := Lib.hid (rowIs_below x.out b8 x.out.lt)
    replace v3 := Lib.hid (v3.out.up b8)
    replace v4 := Lib.hid (v4.out.up b8)
    replace i5 := Lib.hid (i5.out.up' b8)
    replace i6 := Lib.hid (i6.out.up' b8)
    replace i7 := Lib.hid (i7.out.up' b8)
    replace i8 := Lib.hid (i8.out.up' b8)
    have hx := x.out.cell (i := 0) (by omega)
    clear b8
    have hs2 := Lib.hid (eqB_yes (xs := wR ts ss vs) (ys := wR ts ss vs) rfl (fun _ _ => rfl))
    go_wp2_with fail
    refine (sameInts_any A7 A8 n7 n8 c7 c8 _ (wR ts ss vs) (wR ts ss vs) _ i7.out i8.out hn7 hn8).mono ?_
    rintro e w9 ⟨rfl, dr9, hw9⟩
    have b9 := drew_below hw9
    clear hw9
    rw [hs2.out]
    replace u := Lib.hid (u.out.trans (b9.mono u.out.size))
    clear hx
    replace p := Lib.hid (p.out.up b9)
    replace x := Lib.hid (rowIs_below x.out b9 x.out.lt)
    replace v3 := Lib.hid (v3.out.up b9)
    replace v4 := Lib.hid (v4.out.up b9)
    replace i5 := Lib.hid (i5.out.up' b9)
    replace i6 := Lib.hid (i6.out.up' b9)
    replace i7 := Lib.hid (i7.out.up' b9)
    replace i8 := Lib.hid (i8.out.up' b9)
    have hx := x.out.cell (i := 0) (by omega)
    clear b9
    clear v4
    clear i6
    clear i8
    cases ok
    · clear hx
      clear p x v3 i5 i7
      clear hok hq1 hn1 hn2 hm hn3 hn4 hn5 hn6 hn7 hn8 hL1 hL2 hL3 l3 l4 l5 l6 l7 l8 hs1 hs2
      go_wp2_with fail
      refine (drawVotersFor_any A' n' c' _ (h2'.out.below u.out) (by omega)).mono ?_
      rintro e w90 ⟨A1, n1, c1, ts, A2, n2, c2, ss, V, m, d, vs, fb, rfl, P1, _, b1⟩
      have hn1 : n1 ≤ 1048576 := by have := P1.hn; omega
      have hn2 : n2 ≤ 1048576 := by have := P1.hn'; omega
      have hm : m ≤ 1048576 := by have := P1.hm; omega
      have kx := bx_below w90 (.cells #[.slice V m d] 55)
      have x := Lib.hid (bx_row w90 (.slice V m d) 55)
      have p := Lib.hid (P1.up kx)
      replace u := Lib.hid (u.out.trans ((b1.trans (kx.mono b1.size)).mono u.out.size))
      clear P1 b1 kx
      have hx := x.out.cell (i := 0) (by omega)
      have hfl := forR_len ts ss vs fb
      obtain ⟨fk, hfk⟩ : ∃ b, Hid (forOK ts ss vs fb = b) := ⟨_, Lib.hid rfl⟩
      go_wp2_with fail
      refine (implFor_any A1 n1 c1 ts A2 n2 c2 ss V m d vs fb _ p.out.blk p.out.int p.out.vot hn1 hn2 hm).mono ?_
      rintro e w10 ⟨A7, n7, c7, rfl, o7, b10⟩
      rw [hfk.out]
      replace u := Lib.hid (u.out.trans (b10.mono u.out.size))
      clear hx
      replace p := Lib.hid (p.out.up b10)
      replace x := Lib.hid (rowIs_below x.out b10 x.out.lt)
      have hx := x.out.cell (i := 0) (by omega)
      clear b10
      have i7 := Lib.hid o7.ints; have l7 := Lib.hid o7.len
      clear o7
      go_wp2_with fail
      refine (specFor_any A1 n1 c1 ts A2 n2 c2 ss V m d vs fb _ p.out.blk p.out.int p.out.vot hn1 hn2 hm).mono ?_
      rintro e w11 ⟨A8, n8, c8, rfl, o8, b11⟩
      rw [hfk.out]
      replace u := Lib.hid (u.out.trans (b11.mono u.out.size))
      clear hx
      replace p := Lib.hid (p.out.up b11)
      replace x := Lib.hid (rowIs_below x.out b11 x.out.lt)
      replace i7 := Lib.hid (i7.out.up' b11)
      have hx := x.out.cell (i := 0) (by omega)
      clear b11
      have i8 := Lib.hid o8.ints; have l8 := Lib.hid o8.len
      clear o8
      have hrq3 : (fk == fk) = true := by simp
      have hn7 : n7 ≤ 1048576 := by have := l7.out; omega
      have hn8 : n8 ≤ 1048576 := by have := l8.out; omega
      have hsame2 := Lib.hid (eqB_yes (xs := forR ts ss vs fb) (ys := forR ts ss vs fb) rfl (fun _ _ => rfl))
      go_wp2_with fail
      refine (sameInts_any A7 A8 n7 n8 c7 c8 _ (forR ts ss vs fb) (forR ts ss vs fb) _ i7.out i8.out hn7 hn8).mono ?_
      rintro e w12 ⟨rfl, dr12, hw12⟩
      have b12 := drew_below hw12
      clear hw12
      rw [hsame2.out]
      replace u := Lib.hid (u.out.trans (b12.mono u.out.size))
      clear hx
      replace p := Lib.hid (p.out.up b12)
      replace x := Lib.hid (rowIs_below x.out b12 x.out.lt)
      replace i7 := Lib.hid (i7.out.up' b12)
      replace i8 := Lib.hid (i8.out.up' b12)
      have hx := x.out.cell (i := 0) (by omega)
      clear b12
      go_wp2_with fail
      go_ret
      exact ⟨rfl, u.out⟩
    · have hlr := Lib.hid (show latR ts ss vs = latList vs by unfold latR; rw [hok.out, if_pos rfl])
      have hpr := Lib.hid (show liarsR ts ss vs = putsL vs vs.length by unfold liarsR; rw [hok.out, if_pos rfl])
      have hwr := Lib.hid (show wR ts ss vs = wtsL ts ss vs by unfold wR; rw [hok.out, if_pos rfl])
      rw [hlr.out] at v3 l3
      rw [hpr.out] at i5 l5
      rw [hwr.out] at i7 l7
      have hlv := Lib.hid p.out.vot.1; have hls := Lib.hid p.out.int.1; have hl60 := Lib.hid (lat_60 hok.out)
      have hbd := Lib.hid (bds_of_good (poolOk_iff.1 hok.out).1.1.2)
      have hn360 : n3 ≤ 60 := by have := l3.out; have := hl60.out; omega
      have hm100 : m ≤ 100 := p.out.hm
      go_wp2_with fail
      go_loopw [20, 21, 22, 24, 123, 157] (fun a _ _ _ i _ wr => ∃ k : Nat, k ≤ n3 ∧ i = .int .i64 k ∧ a = .int .i64 (totK ss (latList vs) k) ∧ Hid (Below w9.heap.size w9 wr)) (fun _ _ _ _ i _ _ => n3 - (intOf i).toNat)
      case atStart => exact ⟨0, Nat.zero_le _, rfl, rfl, Lib.hid (Below.refl _ _)⟩
      case round =>
        obtain ⟨k, hk, rfl, rfl, hl13⟩ := hrel
        have bq := hl13.out
        replace u := Lib.hid (u.out.trans (bq.mono u.out.size))
        clear hx
        replace p := Lib.hid (p.out.up bq)
        replace x := Lib.hid (rowIs_below x.out bq x.out.lt)
        replace v3 := Lib.hid (v3.out.up bq)
        replace i5 := Lib.hid (i5.out.up' bq)
        replace i7 := Lib.hid (i7.out.up' bq)
        have hx := x.out.cell (i := 0) (by omega)
        clear bq
        by_cases hlt : k < n3
        · obtain ⟨vb, vo, rfl, hvb, q0, q1, q2⟩ := v3.out.2 k hlt
          have hkl : k < (latList vs).length := by rw [l3.out]; exact hlt
          have hno := Lib.hid (lat_noliar hkl)
          have hla := Lib.hid (fun (q : Nat) (hq : q < vs.length) e => lat_latest hok.out hkl hq e)
          obtain ⟨⟨i, hi, hin⟩, _⟩ := lat_of hok.out k hkl
          have hst := Lib.hid (show totK ss (latList vs) (k + 1) = totK ss (latList vs) k + getI ss i by simp only [totK]; rw [hi, Int.toNat_natCast])
          have htb := totK_bd (lat_of hok.out) hbd.out k (by omega)
          have hbi := hbd.out i hin
          have hri := Lib.hid (fun (h0 : 0 < k) => lat_rise hok.out hkl h0)
          obtain ⟨v, hvk⟩ : ∃ v, getV (latList vs) k = v := ⟨_, rfl⟩
          rw [hvk] at q0 q1 q2 hno hla hi hri
          obtain ⟨r1, r2, r3⟩ := v
          simp only at q0 q1 q2 hno hla hi hri
          subst hi
          obtain ⟨sb, so, e2, hsb, hcs⟩ := p.out.int.2 i (by rw [← hls.out]; exact hin)
          subst e2
          obtain ⟨sv, hsv⟩ : ∃ s, ss[i]?.getD 0 = s := ⟨_, rfl⟩
          have hgs : getI ss i = sv := hsv
          rw [hsv] at hcs hbi
          rw [hgs] at hst
          obtain ⟨T, hT⟩ : ∃ T, totK ss (latList vs) k = T := ⟨_, rfl⟩
          rw [hT] at hst htb
          rw [hT]
          have hin2 : (i : Int) < (n2 : Int) := by have := hls.out; omega
          clear hvk hsv hgs hT hkl
          have kV := bx_below wr (.cells #[.int .i64 (i : Int), .int .i64 r2, .int .i64 r3] 63)
          have xV := Lib.hid (bx_row3 wr (.int .i64 (i : Int)) (.int .i64 r2) (.int .i64 r3) 63)
          obtain ⟨W, hW⟩ : ∃ W, wr.alloc (.cells #[.int .i64 (i : Int), .int .i64 r2, .int .i64 r3] 63) = W := ⟨_, rfl⟩
          rw [hW] at kV xV
          have hW' := Lib.hid hW
          clear hW
          replace u := Lib.hid (u.out.trans (kV.mono u.out.size))
          replace hl13 := Lib.hid (hl13.out.trans (kV.mono hl13.out.size))
          clear hx
          replace p := Lib.hid (p.out.up kV)
          replace x := Lib.hid (rowIs_below x.out kV x.out.lt)
          replace v3 := Lib.hid (v3.out.up kV)
          replace i5 := Lib.hid (i5.out.up' kV)
          replace i7 := Lib.hid (i7.out.up' kV)
          have hx := x.out.cell (i := 0) (by omega)
          clear kV
          have hxV_0 := row3_0 xV.out
          have hxV_1 := row3_1 xV.out
          have hxV_2 := row3_2 xV.out
          have hcon := Lib.hid (fun (q : Nat) => (show Calls Try.prog 50 #[.slice A5 n5 c5, .int .i64 (i : Int)] (W.drewN q) (fun e w'' => e = .returned (.bool false) ∧ ∃ m', w'' = W.drewN m') from Calls.quiet_of (by
            have := hasS_any A5 n5 c5 (W.drewN q).heap.size _ (i : Int) (W.drewN q) (show IntsAt (W.drewN q) (W.drewN q).heap.size A5 n5 _ from ⟨i5.out.1, i5.out.2⟩) hn5
            rw [hno.out] at this
            exact this.mono (fun e w' ⟨h1, h2⟩ => ⟨h1, 0, by rw [h2]; rfl⟩))))
          have kVs := hW'.out
          have hcs2 : W.cell? ⟨sb, so + i, none⟩ = some (.int .i64 sv) := by rw [← kVs]; exact ((bx_below wr _).cell (p := ⟨sb, so + i, none⟩) hsb).trans hcs
          have hvs2 := Lib.hid (fun q (h0 : q < n3) => v3.out.2 q h0)
          clear kVs hcs
          by_cases hk0 : k = 0
          · have hkI : ¬ 0 < k := by omega
            clear hk0
            go_upto_region 17 with fail
            rw [hW'.out]
            go_wp2_with fail
            go_quiet ((go_at_call 50; exact hcon.out _))
            obtain ⟨W3, hW3⟩ : ∃ W3, W.drewN nq = W3 := ⟨_, rfl⟩
            have b3 : Below W.heap.size W W3 := by rw [← hW3]; exact below_drewN (Below.refl _ _) nq
            rw [hW3]
            clear hW3
            replace u := Lib.hid (u.out.trans (b3.mono u.out.size))
            replace hl13 := Lib.hid (hl13.out.trans (b3.mono hl13.out.size))
            clear hx hxV_0 hxV_1 hxV_2
            replace p := Lib.hid (p.out.up b3)
            replace x := Lib.hid (rowIs_below x.out b3 x.out.lt)
            replace v3 := Lib.hid (v3.out.up b3)
            replace i5 := Lib.hid (i5.out.up' b3)
            replace i7 := Lib.hid (i7.out.up' b3)
            replace xV := Lib.hid (rowIs_below xV.out b3 xV.out.lt)
            have hx := x.out.cell (i := 0) (by omega)
            have hxV_0 := row3_0 xV.out
            have hxV_1 := row3_1 xV.out
            have hxV_2 := row3_2 xV.out
            clear b3
            go_wp2_with fail
            go_loopw [24, 157] (fun _ i wr => ∃ j : Nat, j ≤ m ∧ i = .int .i64 j ∧ Hid (Below W3.heap.size W3 wr)) (fun _ i _ => m - (intOf i).toNat)
            case atStart => exact ⟨0, Nat.zero_le _, rfl, Lib.hid (Below.refl _ _)⟩
            case round =>
              obtain ⟨j, hj, rfl, hl14⟩ := hrel
              have bq := hl14.out
              replace u := Lib.hid (u.out.trans (bq.mono u.out.size))
              replace hl13 := Lib.hid (hl13.out.trans (bq.mono hl13.out.size))
              clear hx hxV_0 hxV_1 hxV_2
              replace p := Lib.hid (p.out.up bq)
              replace x := Lib.hid (rowIs_below x.out bq x.out.lt)
              replace v3 := Lib.hid (v3.out.up bq)
              replace i5 := Lib.hid (i5.out.up' bq)
              replace i7 := Lib.hid (i7.out.up' bq)
              replace xV := Lib.hid (rowIs_below xV.out bq xV.out.lt)
              have hx := x.out.cell (i := 0) (by omega)
              have hxV_0 := row3_0 xV.out
              have hxV_1 := row3_1 xV.out
              have hxV_2 := row3_2 xV.out
              clear bq
              by_cases hjl : j < m
              · obtain ⟨xb, xo, e3, hxb, t0, t1, t2⟩ := p.out.vot.2 j hjl
                subst e3
                have hq := Lib.hid (hla.out j (by rw [hlv.out]; exact hjl))
                obtain ⟨y, hyk⟩ : ∃ y, getV vs j = y := ⟨_, rfl⟩
                rw [hyk] at t0 t1 t2 hq
                obtain ⟨y1, y2, y3⟩ := y
                simp only at t0 t1 t2 hq
                clear hyk
                have hjI : (j : Int) < (m : Int) := by omega
                have kV := bx_below wr (.cells #[.int .i64 y1, .int .i64 y2, .int .i64 y3] 63)
                have xY := Lib.hid (bx_row3 wr (.int .i64 y1) (.int .i64 y2) (.int .i64 y3) 63)
                obtain ⟨W4, hW4⟩ : ∃ W, wr.alloc (.cells #[.int .i64 y1, .int .i64 y2, .int .i64 y3] 63) = W := ⟨_, rfl⟩
                rw [hW4] at kV xY
                have hW4' := Lib.hid hW4
                clear hW4
                replace u := Lib.hid (u.out.trans (kV.mono u.out.size))
                replace hl13 := Lib.hid (hl13.out.trans (kV.mono hl13.out.size))
                replace hl14 := Lib.hid (hl14.out.trans (kV.mono hl14.out.size))
                clear hx hxV_0 hxV_1 hxV_2
                replace p := Lib.hid (p.out.up kV)
                replace x := Lib.hid (rowIs_below x.out kV x.out.lt)
                replace v3 := Lib.hid (v3.out.up kV)
                replace i5 := Lib.hid (i5.out.up' kV)
                replace i7 := Lib.hid (i7.out.up' kV)
                replace xV := Lib.hid (rowIs_below xV.out kV xV.out.lt)
                have hx := x.out.cell (i := 0) (by omega)
                have hxV_0 := row3_0 xV.out
                have hxV_1 := row3_1 xV.out
                have hxV_2 := row3_2 xV.out
                clear kV
                have hxY_0 := row3_0 xY.out
                have hxY_1 := row3_1 xY.out
                have hxY_2 := row3_2 xY.out
                by_cases he : y1 = (i : Int)
                · have hle := hq.out he
                  have hb1 : (y1 == (i : Int)) = true := by simp [he]
                  have hgt : ¬ r2 < y2 := by omega
                  clear he hle
                  go_upto_region 23 with fail
                  rw [hW4'.out]
                  go_wp2_with fail
                  go_roundw
                  case rel => exact ⟨j + 1, by omega, by go_num, hl14⟩
                  case measure => simp [intOf]; omega
                · have hb1 : (y1 == (i : Int)) = false := by simp [he]
                  clear he
                  go_upto_region 23 with fail
                  rw [hW4'.out]
                  go_wp2_with fail
                  go_roundw
                  case rel => exact ⟨j + 1, by omega, by go_num, hl14⟩
                  case measure => simp [intOf]; omega
              · have hjI : ¬ (j : Int) < (m : Int) := by omega
                go_wp2_with fail
                go_roundw
                case rel => exact ⟨k + 1, by omega, by go_num, by rw [hst.out], hl13⟩
                case measure => simp [intOf]; omega
          · have hkI : 0 < k := by omega
            obtain ⟨K, hK⟩ : ∃ K, k - 1 = K := ⟨_, rfl⟩
            obtain ⟨ab, ao, ea, _, a0, _, _⟩ := hvs2.out K (by omega)
            cases ea
            have hrr := hri.out (by omega)
            rw [hK] at hrr
            obtain ⟨a1, ha1⟩ : ∃ a, (getV (latList vs) K).1 = a := ⟨_, rfl⟩
            rw [ha1] at a0 hrr
            have hge : ¬ (i : Int) ≤ a1 := by omega
            have hKI : (k : Int) - 1 = (K : Int) := by omega
            have hKw : IntKind.i64.wrap ((k : Int) - 1) = (K : Int) := by rw [hKI]; exact wrap_natV (by omega)
            have hKm : (K : Int) < (n3 : Int) := by omega
            clear hk0 hrr ha1 hK hKI
            go_upto_region 17 with fail
            rw [hW'.out]
            go_wp2_with fail
            go_quiet ((go_at_call 50; exact hcon.out _))
            obtain ⟨W3, hW3⟩ : ∃ W3, W.drewN nq = W3 := ⟨_, rfl⟩
            have b3 : Below W.heap.size W W3 := by rw [← hW3]; exact below_drewN (Below.refl _ _) nq
            rw [hW3]
            clear hW3
            replace u := Lib.hid (u.out.trans (b3.mono u.out.size))
            replace hl13 := Lib.hid (hl13.out.trans (b3.mono hl13.out.size))
            clear hx hxV_0 hxV_1 hxV_2
            replace p := Lib.hid (p.out.up b3)
            replace x := Lib.hid (rowIs_below x.out b3 x.out.lt)
            replace v3 := Lib.hid (v3.out.up b3)
            replace i5 := Lib.hid (i5.out.up' b3)
            replace i7 := Lib.hid (i7.out.up' b3)
            replace xV := Lib.hid (rowIs_below xV.out b3 xV.out.lt)
            have hx := x.out.cell (i := 0) (by omega)
            have hxV_0 := row3_0 xV.out
            have hxV_1 := row3_1 xV.out
            have hxV_2 := row3_2 xV.out
            clear b3
            go_wp2_with fail
            go_loopw [24, 157] (fun _ i wr => ∃ j : Nat, j ≤ m ∧ i = .int .i64 j ∧ Hid (Below W3.heap.size W3 wr)) (fun _ i _ => m - (intOf i).toNat)
            case atStart => exact ⟨0, Nat.zero_le _, rfl, Lib.hid (Below.refl _ _)⟩
            case round =>
              obtain ⟨j, hj, rfl, hl15⟩ := hrel
              have bq := hl15.out
              replace u := Lib.hid (u.out.trans (bq.mono u.out.size))
              replace hl13 := Lib.hid (hl13.out.trans (bq.mono hl13.out.size))
              clear hx hxV_0 hxV_1 hxV_2
              replace p := Lib.hid (p.out.up bq)
              replace x := Lib.hid (rowIs_below x.out bq x.out.lt)
              replace v3 := Lib.hid (v3.out.up bq)
              replace i5 := Lib.hid (i5.out.up' bq)
              replace i7 := Lib.hid (i7.out.up' bq)
              replace xV := Lib.hid (rowIs_below xV.out bq xV.out.lt)
              have hx := x.out.cell (i := 0) (by omega)
              have hxV_0 := row3_0 xV.out
              have hxV_1 := row3_1 xV.out
              have hxV_2 := row3_2 xV.out
              clear bq
              by_cases hjl : j < m
              · obtain ⟨xb, xo, e3, hxb, t0, t1, t2⟩ := p.out.vot.2 j hjl
                subst e3
                have hq := Lib.hid (hla.out j (by rw [hlv.out]; exact hjl))
                obtain ⟨y, hyk⟩ : ∃ y, getV vs j = y := ⟨_, rfl⟩
                rw [hyk] at t0 t1 t2 hq
                obtain ⟨y1, y2, y3⟩ := y
                simp only at t0 t1 t2 hq
                clear hyk
                have hjI : (j : Int) < (m : Int) := by omega
                have kV := bx_below wr (.cells #[.int .i64 y1, .int .i64 y2, .int .i64 y3] 63)
                have xY := Lib.hid (bx_row3 wr (.int .i64 y1) (.int .i64 y2) (.int .i64 y3) 63)
                obtain ⟨W4, hW4⟩ : ∃ W, wr.alloc (.cells #[.int .i64 y1, .int .i64 y2, .int .i64 y3] 63) = W := ⟨_, rfl⟩
                rw [hW4] at kV xY
                have hW4' := Lib.hid hW4
                clear hW4
                replace u := Lib.hid (u.out.trans (kV.mono u.out.size))
                replace hl13 := Lib.hid (hl13.out.trans (kV.mono hl13.out.size))
                replace hl15 := Lib.hid (hl15.out.trans (kV.mono hl15.out.size))
                clear hx hxV_0 hxV_1 hxV_2
                replace p := Lib.hid (p.out.up kV)
                replace x := Lib.hid (rowIs_below x.out kV x.out.lt)
                replace v3 := Lib.hid (v3.out.up kV)
                replace i5 := Lib.hid (i5.out.up' kV)
                replace i7 := Lib.hid (i7.out.up' kV)
                replace xV := Lib.hid (rowIs_below xV.out kV xV.out.lt)
                have hx := x.out.cell (i := 0) (by omega)
                have hxV_0 := row3_0 xV.out
                have hxV_1 := row3_1 xV.out
                have hxV_2 := row3_2 xV.out
                clear kV
                have hxY_0 := row3_0 xY.out
                have hxY_1 := row3_1 xY.out
                have hxY_2 := row3_2 xY.out
                by_cases he : y1 = (i : Int)
                · have hle := hq.out he
                  have hb1 : (y1 == (i : Int)) = true := by simp [he]
                  have hgt : ¬ r2 < y2 := by omega
                  clear he hle
                  go_upto_region 23 with fail
                  rw [hW4'.out]
                  go_wp2_with fail
                  go_roundw
                  case rel => exact ⟨j + 1, by omega, by go_num, hl15⟩
                  case measure => simp [intOf]; omega
                · have hb1 : (y1 == (i : Int)) = false := by simp [he]
                  clear he
                  go_upto_region 23 with fail
                  rw [hW4'.out]
                  go_wp2_with fail
                  go_roundw
                  case rel => exact ⟨j + 1, by omega, by go_num, hl15⟩
                  case measure => simp [intOf]; omega
              · have hjI : ¬ (j : Int) < (m : Int) := by omega
                go_wp2_with fail
                go_roundw
                case rel => exact ⟨k + 1, by omega, by go_num, by rw [hst.out], hl13⟩
                case measure => simp [intOf]; omega
        · have hkI : ¬ (k : Int) < (n3 : Int) := by omega
          have hsum := Lib.hid (show sumL (wtsL ts ss vs) = totK ss (latList vs) k by rw [lat_wts hok.out, show k = (latList vs).length by rw [l3.out]; omega])
          obtain ⟨T, hT⟩ : ∃ T, totK ss (latList vs) k = T := ⟨_, rfl⟩
          rw [hT] at hsum
          rw [hT]
          have hTT : (T != T) = false := by simp
          obtain ⟨hfo, hfl⟩ := lat_for hok.out
          have hfo' := Lib.hid hfo; have hfl' := Lib.hid hfl
          have hmil := Lib.hid (mil_wts hok.out)
          clear hfo hfl hT
          go_wp2_with fail
          refine (lawSumM_any A7 n7 c7 _ (wtsL ts ss vs) _ i7.out hn7 hmil.out).mono ?_
          rintro e w16 ⟨rfl, rfl⟩
          rw [hsum.out]
          go_wp2_with fail
          refine (implFor_any A1 n1 c1 ts A2 n2 c2 ss V m d vs 0 _ p.out.blk p.out.int p.out.vot hn1 hn2 hm).mono ?_
          rintro e w17 ⟨A9, n9, c9, rfl, o9, b17⟩
          rw [hfo'.out]
          replace u := Lib.hid (u.out.trans (b17.mono u.out.size))
          replace hl13 := Lib.hid (hl13.out.trans (b17.mono hl13.out.size))
          clear hx
          replace p := Lib.hid (p.out.up b17)
          replace x := Lib.hid (rowIs_below x.out b17 x.out.lt)
          replace v3 := Lib.hid (v3.out.up b17)
          replace i5 := Lib.hid (i5.out.up' b17)
          replace i7 := Lib.hid (i7.out.up' b17)
          have hx := x.out.cell (i := 0) (by omega)
          clear b17
          have i9 := Lib.hid o9.ints; have l9 := Lib.hid o9.len
          clear o9
          have hn93 : n9 = n3 := by have h1 := l9.out; have h2 := hfl'.out; have h3 := l3.out; omega
          subst hn93
          clear hx
          clear p x v3 i5 i7 i9
          clear hok hq1 hn1 hn2 hm hn3 hn4 hn5 hn6 hn7 hn8 hL1 hL2 hL3 l3 l4 l5 l6 l7 l8 hs1 hs2 hlr hpr hwr hlv hls hl60 hbd hn360 hm100 hkI hsum hTT hfo' hfl' hmil l9 hlt hk
          go_wp2_with fail
          refine (drawVotersFor_any A' n' c' _ (h2'.out.below u.out) (by omega)).mono ?_
          rintro e w90 ⟨A1, n1, c1, ts, A2, n2, c2, ss, V, m, d, vs, fb, rfl, P1, _, b1⟩
          have hn1 : n1 ≤ 1048576 := by have := P1.hn; omega
          have hn2 : n2 ≤ 1048576 := by have := P1.hn'; omega
          have hm : m ≤ 1048576 := by have := P1.hm; omega
          have kx := bx_below w90 (.cells #[.slice V m d] 55)
          have x := Lib.hid (bx_row w90 (.slice V m d) 55)
          have p := Lib.hid (P1.up kx)
          replace u := Lib.hid (u.out.trans ((b1.trans (kx.mono b1.size)).mono u.out.size))
          clear P1 b1 kx
          have hx := x.out.cell (i := 0) (by omega)
          have hfl := forR_len ts ss vs fb
          obtain ⟨fk, hfk⟩ : ∃ b, Hid (forOK ts ss vs fb = b) := ⟨_, Lib.hid rfl⟩
          go_wp2_with fail
          refine (implFor_any A1 n1 c1 ts A2 n2 c2 ss V m d vs fb _ p.out.blk p.out.int p.out.vot hn1 hn2 hm).mono ?_
          rintro e w18 ⟨A7, n7, c7, rfl, o7, b18⟩
          rw [hfk.out]
          replace u := Lib.hid (u.out.trans (b18.mono u.out.size))
          clear hx
          replace p := Lib.hid (p.out.up b18)
          replace x := Lib.hid (rowIs_below x.out b18 x.out.lt)
          have hx := x.out.cell (i := 0) (by omega)
          clear b18
          have i7 := Lib.hid o7.ints; have l7 := Lib.hid o7.len
          clear o7
          go_wp2_with fail
          refine (specFor_any A1 n1 c1 ts A2 n2 c2 ss V m d vs fb _ p.out.blk p.out.int p.out.vot hn1 hn2 hm).mono ?_
          rintro e w19 ⟨A8, n8, c8, rfl, o8, b19⟩
          rw [hfk.out]
          replace u := Lib.hid (u.out.trans (b19.mono u.out.size))
          clear hx
          replace p := Lib.hid (p.out.up b19)
          replace x := Lib.hid (rowIs_below x.out b19 x.out.lt)
          replace i7 := Lib.hid (i7.out.up' b19)
          have hx := x.out.cell (i := 0) (by omega)
          clear b19
          have i8 := Lib.hid o8.ints; have l8 := Lib.hid o8.len
          clear o8
          have hrq3 : (fk == fk) = true := by simp
          have hn7 : n7 ≤ 1048576 := by have := l7.out; omega
          have hn8 : n8 ≤ 1048576 := by have := l8.out; omega
          have hsame2 := Lib.hid (eqB_yes (xs := forR ts ss vs fb) (ys := forR ts ss vs fb) rfl (fun _ _ => rfl))
          go_wp2_with fail
          refine (sameInts_any A7 A8 n7 n8 c7 c8 _ (forR ts ss vs fb) (forR ts ss vs fb) _ i7.out i8.out hn7 hn8).mono ?_
          rintro e w20 ⟨rfl, dr20, hw20⟩
          have b20 := drew_below hw20
          clear hw20
          rw [hsame2.out]
          replace u := Lib.hid (u.out.trans (b20.mono u.out.size))
          clear hx
          replace p := Lib.hid (p.out.up b20)
          replace x := Lib.hid (rowIs_below x.out b20 x.out.lt)
          replace i7 := Lib.hid (i7.out.up' b20)
          replace i8 := Lib.hid (i8.out.up' b20)
          have hx := x.out.cell (i := 0) (by omega)
          clear b20
          go_wp2_with fail
          go_ret
          exact ⟨rfl, u.out⟩
  · have hlen' : (1048576 : Int) < (n : Int) + (n' : Int) := by omega
    go_enter Try.func12, Try.ntmps12
    go_wp2_with fail
    go_ret
    exact ⟨rfl, Below.refl _ _⟩
end Go.Proofs.Ythiegfbdmmpabaa
