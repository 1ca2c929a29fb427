/- What is proved here: what the model's draws of the arguments of RunsOutAt, FinalView and VotersFor return, at every slice of bytes. No conditions beside the slice's length. -/
import Derived.Test.YthiegfbdmmpabaaDrawWin
import Derived.Deep.RegionWith
import Derived.Test.YthiegfbdmmpabaaVotes
import Derived.BigQuiet
import Derived.Test.YthiegfbdmmpabaaTrimSpec
import Derived.Test.YthiegfbdmmpabaaOpenVotes
import Derived.Test.YthiegfbdmmpabaaAsleepFacts
import Derived.Test.YthiegfbdmmpabaaHeadWithinSpec
import Derived.Test.YthiegfbdmmpabaaAsleepModel
import Derived.Test.YthiegfbdmmpabaaAsleepSpec
import Derived.Test.YthiegfbdmmpabaaLawHelp
namespace Go.Proofs.Ythiegfbdmmpabaa
open Go.RowKit

theorem results_ttcu {P : Program} {fn : Func} {p a b u : Tmp} {ty : TypeId} (h : fn.results = #[.tmp a, .tmp b, .cell p ty, .tmp u]) (tmps : Array Value) (w : World) (g : Nat) (t : TypeId) (cs : Array Value) (fr : Nat × Nat) (d : TypeDesc)
    (hp : tmps.getD p undef = .pointer (some ⟨g, 0, none⟩)) (hg : w.heap[g]? = some (.cells cs t fr))
    (hu : P.underlying ty = some d) (hd : (match d with | .struct _ | .array _ _ => true | _ => false) = true) (hi : (P.info? ty).map (·.size) = some cs.size) :
    (results fn tmps).run P w = .ok (.tuple #[tmps.getD a undef, tmps.getD b undef, .agg cs, tmps.getD u undef]) w := by
  have h0 : (results fn tmps).run P w =
      ((asAddr (tmps.getD p undef)).run P w).andThen fun x w₁ => ((loadVar ty x).run P w₁).andThen fun v w₂ => .ok (.tuple #[tmps.getD a undef, tmps.getD b undef, v, tmps.getD u undef]) w₂ := by
    simp only [results, h]
    simp [Sem.run_bind, Result.andThen]
  rw [h0, hp]
  simp [asAddr, run_loadVar_row w g t ty cs fr d hg hu hd hi]
theorem five_at (w : World) (s : Nat) (hs : w.heap.size = s) (a b c d e : Int) (t : TypeId) : IntsAt (w.alloc (.cells #[.int .i64 a, .int .i64 b, .int .i64 c, .int .i64 d, .int .i64 e] t)) (s + 1) (some ⟨s, 0, none⟩) 5 [a, b, c, d, e] := by
  subst hs
  refine ⟨rfl, fun k hk => ⟨w.heap.size, 0, rfl, Nat.lt_succ_self _, ?_⟩⟩
  have hc := fun (j : Nat) => cell_of_row (w.alloc (.cells #[.int .i64 a, .int .i64 b, .int .i64 c, .int .i64 d, .int .i64 e] t)) w.heap.size j _ t (0, 0) (heap_alloc_new _ _)
  match k, hk with
  | 0, _ => exact hc 0
  | 1, _ => exact hc 1
  | 2, _ => exact hc 2
  | 3, _ => exact hc 3
  | 4, _ => exact hc 4
  | k + 5, h => omega
theorem wrap_smallI {y : Int} (h0 : -100 ≤ y) (h1 : y ≤ 1000) : IntKind.i64.wrap y = y := by
  simp [IntKind.wrap, IntKind.bits, IntKind.signed]
  split <;> omega
def RunsPost (w : World) (e : Ending) (w' : World) : Prop :=
  ∃ x y z k : Int, e = .returned (.tuple #[.agg #[.int .i64 x, .int .i64 y, .int .i64 z], .int .i64 k]) ∧ Below w.heap.size w w'

set_option maxRecDepth 100000 in
set_option maxHeartbeats 3200000 in
theorem drawRuns_any (A : Option Addr) (n c : Nat) (w : World) (h : BytesIn w A n) (hn : n ≤ 1048576) :
    Calls Try.prog 54 #[.slice A n c] w (RunsPost w) := by
  have rV := bx_row3 w (.int .i64 0) (.int .i64 0) (.int .i64 0) 63
  have bV := new_below w (.cells #[.int .i64 0, .int .i64 0, .int .i64 0] 63)
  have sV : (w.alloc (.cells #[.int .i64 0, .int .i64 0, .int .i64 0] 63)).heap.size = w.heap.size + 1 := by simp
  have bC := new_below (w.alloc (.cells #[.int .i64 0, .int .i64 0, .int .i64 0] 63)) (.cells #[.slice A n c, .int .i64 0, .int .u64 0] 123)
  have cu0 := cur_new (c := c) (h.below bV) hn
  rw [sV] at cu0
  have q0 := Lib.hid (rowIs_below rV bC (by omega))
  have b0 := Lib.hid (bV.trans (bC.mono (by omega)))
  have sC : ((w.alloc (.cells #[.int .i64 0, .int .i64 0, .int .i64 0] 63)).alloc (.cells #[.slice A n c, .int .i64 0, .int .u64 0] 123)).heap.size = w.heap.size + 2 := by simp
  have cu0' := Lib.hid cu0
  clear rV bV bC cu0 h sV
  go_enter Try.func54, Try.ntmps54
  go_upto_region 2 with fail
  generalize ((w.alloc (.cells #[.int .i64 0, .int .i64 0, .int .i64 0] 63)).alloc (.cells #[.slice A n c, .int .i64 0, .int .u64 0] 123)) = w1 at *
  have sC' := Lib.hid sC
  clear sC
  have tk0 : True := trivial
  go_wp2_with (first
    | (clear tk0
       go_at_call 126
       refine (pick_any (w.heap.size + 1) (w.heap.size + 1 + 1) 0 3 w1 cu0'.out (by decide) (by decide)).mono ?_
       rintro e w2 ⟨x, rfl, _, _, c2, o2⟩
       have s2 := o2.size
       have bx := new_below w2 (.cells #[.int .i64 0, .int .i64 1, .int .i64 9, .int .i64 4000, .int .i64 4001] 3)
       have g2 := Lib.hid ((Grew.of_only (B := w1.heap.size) o2).trans (Grew.of_below (bx.mono (by omega))))
       have c2' := Lib.hid (c2.below (bx.mono (by have := sC'.out; omega)))
       have i2 := Lib.hid (five_at w2 w2.heap.size rfl 0 1 9 4000 4001 3)
       have hs2 := Lib.hid (show w2.heap.size = w.heap.size + 2 by rw [s2, sC'.out])
       clear c2 o2 s2 bx
       have tk1 : True := trivial)
    | (clear tk1
       go_at_call 111
       refine (among_any (w.heap.size + 1) (w.heap.size + 1 + 1) (0 + 2) 5 5 (w2.heap.size + 1) _ [0, 1, 9, 4000, 4001] _ c2'.out (by decide) i2.out (by decide) (by decide) (fun ad e => by cases e; dsimp only; have := hs2.out; omega)).mono ?_
       rintro e w3 ⟨j, hj, rfl, c3, o3⟩
       have g3 := Lib.hid (g2.out.trans (Grew.of_only o3))
       have c3' := Lib.hid c3
       generalize ([0, 1, 9, 4000, 4001] : List Int)[j]?.getD 0 = y
       clear c3 o3
       have tk2 : True := trivial)
    | (clear tk2
       go_at_call 126
       refine (pick_any (w.heap.size + 1) (w.heap.size + 1 + 1) (0 + 2 + 2) 3 w3 c3'.out (by decide) (by decide)).mono ?_
       rintro e w4 ⟨z, rfl, _, _, c4, o4⟩
       have hs3 := g3.out.size
       have hs4 : w4.heap.size = w3.heap.size := o4.size
       have bx := new_below w4 (.cells #[.int .i64 0, .int .i64 1, .int .i64 5, .int .i64 100, .int .i64 101] 3)
       have g4 := Lib.hid ((g3.out.trans (Grew.of_only (B := w1.heap.size) o4)).trans (Grew.of_below (bx.mono (by omega))))
       have c4' := Lib.hid (c4.below (bx.mono (by have := sC'.out; omega)))
       have i4 := Lib.hid (five_at w4 w4.heap.size rfl 0 1 5 100 101 3)
       have hl4 := Lib.hid (show w.heap.size + 2 ≤ w4.heap.size by have := sC'.out; omega)
       clear c4 o4 bx hs3 hs4
       have tk3 : True := trivial)
    | (clear tk3
       go_at_call 111
       refine (among_any (w.heap.size + 1) (w.heap.size + 1 + 1) (0 + 2 + 2 + 2) 5 5 (w4.heap.size + 1) _ [0, 1, 5, 100, 101] _ c4'.out (by decide) i4.out (by decide) (by decide) (fun ad e => by cases e; dsimp only; have := hl4.out; omega)).mono ?_
       rintro e w5 ⟨j5, hj5, rfl, c5, o5⟩
       have g5 := Lib.hid (g4.out.trans (Grew.of_only o5))
       have q5 := Lib.hid (grew_row q0.out g5.out (by have := sC'.out; omega) (by omega))
       have e0 := row3_0 q5.out
       have e1 := row3_1 q5.out
       have e2 := row3_2 q5.out
       have f0 := q5.out.frozen 0
       have f1 := q5.out.frozen 1
       have f2 := q5.out.frozen 2
       generalize ([0, 1, 5, 100, 101] : List Int)[j5]?.getD 0 = kk
       clear c5 o5))
  refine bodyPost_ret (results_row2 rfl _ _ w.heap.size 63 #[.int .i64 x, .int .i64 y, .int .i64 z] (0, 0) _ rfl (pl_three (row3_set q5.out _ _ _)) Try.underlying63 rfl (by kernel_rfl)) rfl ?_
  have u5 : Below w.heap.size w w5 := ((Grew.of_below (g := w.heap.size + 1) b0.out).trans (g5.out.mono (by have := sC'.out; omega))).below (by omega)
  exact ⟨x, y, z, kk, rfl, ((u5.setCell (p := ⟨w.heap.size, 0, none⟩) (Nat.le_refl _) _).setCell (p := ⟨w.heap.size, 1, none⟩) (Nat.le_refl _) _).setCell (p := ⟨w.heap.size, 2, none⟩) (Nat.le_refl _) _⟩

def DrawPost1 (w : World) (e : Ending) (w' : World) : Prop :=
  ∃ A n c ts A' n' c' ss V m d vs x, e = .returned (.tuple #[.slice A n c, .slice A' n' c', .agg #[.slice V m d], .int .i64 x]) ∧ Poolish w' A n ts A' n' ss V m d vs ∧ Lo w.heap.size A A' V ∧ Below w.heap.size w w'
set_option maxRecDepth 100000 in
set_option maxHeartbeats 3200000 in
theorem drawFinalView_any (A : Option Addr) (n c : Nat) (w : World) (h : BytesIn w A n) (hn : n ≤ 1048576) :
    Calls Try.prog 56 #[.slice A n c] w (DrawPost1 w) := by
  obtain ⟨rR, bW, sW⟩ := bx1_rows w (.slice none 0 0) 55
  have q0 := Lib.hid rR; have b0 := Lib.hid bW
  have h0 := Lib.hid (h.below bW)
  clear rR bW h
  go_enter Try.func56, Try.ntmps56
  go_wp2_with fail
  refine (drawActive_any A n c _ h0.out hn).mono ?_
  rintro e w1 ⟨A1, n1, c1, ts, A2, n2, c2, ss, V, m, d, vs, x, y, rfl, P1, L1, k1⟩
  have z1 := k1.size
  rw [sW] at z1 L1
  have kB := bx_below w1 (.cells #[.slice V m d] 55)
  have zB : (w1.alloc (.cells #[.slice V m d] 55)).heap.size = w1.heap.size + 1 := by simp
  have q1 := Lib.hid (rowIs_below (rowIs_below q0.out k1 (by omega)) kB (by omega))
  have x3 := Lib.hid (bx_row w1 (.slice V m d) 55)
  have b1 := Lib.hid ((b0.out.trans (k1.mono (by omega))).trans (kB.mono (by have := b0.out.size; omega)))
  have P1' := Lib.hid (P1.up kB); have L1' := Lib.hid L1
  clear P1 L1 k1 q0 h0 b0 kB
  go_upto_region 2 with fail
  generalize w1.alloc (.cells #[.slice V m d] 55) = w3 at *
  have hf := q1.out.frozen 0
  have hq := q1.out.cell (i := 0) (by omega)
  have hx := x3.out.cell (i := 0) (by omega)
  have ks := fun v => (World.cell?_of_block (a := ⟨w1.heap.size, 0, none⟩) (Below.heap_setCell w3.drew ⟨w.heap.size, 0, none⟩ v w1.heap.size (by show w1.heap.size ≠ w.heap.size; omega))).trans hx
  go_region_held3 (fun w' => w'.cell? ⟨w1.heap.size, 0, none⟩ = some (.slice V m d)) (first | assumption | exact ks _ | go_keep) (fail)
  all_goals
    go_wp2_with fail
    refine bodyPost_ret (results_ttcu rfl _ _ w.heap.size 55 #[.slice V m d] (0, 0) _ rfl (pl_one_set (show w3.drew.rowIs w.heap.size 55 1 _ from q1.out) _) Try.underlying55 rfl (by kernel_rfl)) rfl ?_
    exact ⟨_, n1, c1, ts, _, n2, c2, ss, V, m, d, vs, x, rfl, (show Poolish w3.drew A1 n1 ts A2 n2 ss V m d vs from ⟨⟨P1'.out.blk.1, P1'.out.blk.2⟩, ⟨P1'.out.int.1, P1'.out.int.2⟩, ⟨P1'.out.vot.1, P1'.out.vot.2⟩, P1'.out.hn, P1'.out.hn', P1'.out.hm, P1'.out.cap, P1'.out.nil⟩).setBox L1'.out (Nat.lt_succ_self _) _, L1'.out.less (Nat.le_succ _), (show Below w.heap.size w w3.drew from ⟨b1.out.os, b1.out.tape, b1.out.output, b1.out.size, b1.out.block⟩).setCell (by show w.heap.size ≤ w.heap.size; omega) _⟩

set_option maxRecDepth 100000 in
set_option maxHeartbeats 3200000 in
theorem drawVotersFor_any (A : Option Addr) (n c : Nat) (w : World) (h : BytesIn w A n) (hn : n ≤ 1048576) :
    Calls Try.prog 67 #[.slice A n c] w (DrawPost1 w) := by
  obtain ⟨rR, bW, sW⟩ := bx1_rows w (.slice none 0 0) 55
  have q0 := Lib.hid rR; have b0 := Lib.hid bW
  have h0 := Lib.hid (h.below bW)
  clear rR bW h
  go_enter Try.func67, Try.ntmps67
  go_wp2_with fail
  refine (drawGoodPool_any A n c _ h0.out hn).mono ?_
  rintro e w1 ⟨A1, n1, c1, ts, A2, n2, c2, ss, V, m, d, vs, rfl, P1, L1, k1⟩
  have z1 := k1.size
  rw [sW] at z1 L1
  have hn1 : n1 ≤ 25 := P1.hn
  have h1 := h0.out.below k1
  have kA := bx_below w1 (.cells #[.slice V m d] 55)
  have kB := bx_below (w1.alloc (.cells #[.slice V m d] 55)) (.cells #[.slice A n c, .int .i64 0, .int .u64 0] 123)
  have zA : (w1.alloc (.cells #[.slice V m d] 55)).heap.size = w1.heap.size + 1 := by simp
  have zB := Lib.hid (show ((w1.alloc (.cells #[.slice V m d] 55)).alloc (.cells #[.slice A n c, .int .i64 0, .int .u64 0] 123)).heap.size = w1.heap.size + 2 by simp)
  have kC := kA.trans (kB.mono (by omega))
  have cu := cur_new (c := c) (h1.below kA) hn
  rw [zA] at cu
  have cu3 := Lib.hid cu
  have q1 := Lib.hid (rowIs_below (rowIs_below q0.out k1 (by omega)) kC (by omega))
  have x3 := Lib.hid (rowIs_below (bx_row w1 (.slice V m d) 55) kB (by omega))
  have b1 := Lib.hid (b0.out.trans (k1.mono (by omega)))
  have P1' := Lib.hid P1; have L1' := Lib.hid L1; have kC' := Lib.hid kC
  clear P1 L1 k1 q0 h0 b0 kA kB kC h1 cu zA
  go_upto_region 3 with fail
  generalize (w1.alloc (.cells #[.slice V m d] 55)).alloc (.cells #[.slice A n c, .int .i64 0, .int .u64 0] 123) = w3 at *
  have hz3 := zB.out
  have cuD := Lib.hid (show CurOk w3.drew (w1.heap.size + 1) (w1.heap.size + 1 + 1) 0 from cu3.out)
  have gD : Grew (w1.heap.size + 1) w3.heap.size w3 w3.drew := ⟨rfl, rfl, rfl, Nat.le_refl _, fun _ _ _ => rfl⟩
  have kcell := Lib.hid (show ∀ W : World, Grew (w1.heap.size + 1) w3.heap.size w3 W → W.cell? ⟨w1.heap.size, 0, none⟩ = some (.slice V m d) from fun W hW => (hW.cell (p := ⟨w1.heap.size, 0, none⟩) (by show w1.heap.size < w3.heap.size; omega) (by show w1.heap.size ≠ w1.heap.size + 1; omega)).trans (x3.out.cell (i := 0) (by omega)))
  have zcD := kcell.out w3.drew gD
  have zc0 := kcell.out w3 (Grew.refl _ _ _)
  have hf := q1.out.frozen 0
  have hq := q1.out.cell (i := 0) (by omega)
  obtain ⟨N2, hN2⟩ : ∃ N : Nat, n1 + 2 = N := ⟨_, rfl⟩
  have hNI : (n1 : Int) + 2 = (N2 : Int) := by omega
  have hNw : IntKind.i64.wrap ((n1 : Int) + 2) = (N2 : Int) := by rw [hNI]; exact wrap_natV (by omega)
  have hN27 : N2 ≤ 27 := by omega
  clear hN2 hNI
  have tk0 : True := trivial
  go_region_held3 (fun w' => w'.cell? ⟨w1.heap.size, 0, none⟩ = some (.slice V m d)) (first | assumption | exact ks _ | go_keep) (first
      | (clear tk0
         go_at_call 126
         refine (pick_any (w1.heap.size + 1) (w1.heap.size + 1 + 1) 0 _ _ cuD.out (by decide) (by omega)).mono ?_
         rintro e w5 ⟨x, rfl, hx0, hx1, c5, o5⟩
         obtain ⟨y, hy⟩ : ∃ y : Int, x - 1 = y := ⟨_, rfl⟩
         have hyw : IntKind.i64.wrap (x - 1) = y := by { rw [hy]; exact wrap_smallI (by omega) (by omega) }
         clear hy hx0 hx1
         have g5 := Lib.hid (gD.trans (Grew.of_only o5))
         have zc5 := kcell.out w5 g5.out
         have q5 := Lib.hid (grew_row q1.out g5.out (by omega) (by omega))
         have hq5 := q5.out.cell (i := 0) (by omega)
         have hf5 := q5.out.frozen 0
         have ks := fun v => (World.cell?_of_block (a := ⟨w1.heap.size, 0, none⟩) (Below.heap_setCell w5 ⟨w.heap.size, 0, none⟩ v w1.heap.size (by show w1.heap.size ≠ w.heap.size; omega))).trans (kcell.out w5 g5.out)
         clear c5 o5))
  all_goals
    go_wp2_with fail
    refine bodyPost_ret (results_ttcu rfl _ _ w.heap.size 55 #[.slice V m d] (0, 0) _ rfl (pl_one_set q5.out _) Try.underlying55 rfl (by kernel_rfl)) rfl ?_
    have k5 := ((Grew.of_below (g := w1.heap.size + 1) kC'.out).trans (g5.out.mono (by omega))).below (by omega)
    exact ⟨_, n1, c1, ts, _, n2, c2, ss, V, m, d, vs, _, rfl, (P1'.out.up k5).setBox L1'.out (Nat.lt_succ_self _) _, L1'.out.less (Nat.le_succ _), (b1.out.trans (k5.mono (by omega))).setCell (by show w.heap.size ≤ w.heap.size; omega) _⟩
end Go.Proofs.Ythiegfbdmmpabaa

/- What is proved here: what the laws' comparison of votes returns at two slices that hold the same votes. No conditions but lengths. -/
namespace Go.Proofs.Ythiegfbdmmpabaa
open Go.RowKit

theorem drew_below {w w' : World} {m : Nat} (h : w' = w.drewN m) : Below w.heap.size w w' := by rw [h]; exact below_drewN (Below.refl _ _) m
set_option maxRecDepth 100000 in
set_option maxHeartbeats 800000 in
theorem sameVotes_any (A A' : Option Addr) (n n' c c' B : Nat) (vs : List Vt) (w : World) (h : VotesAt w B A n vs) (h' : VotesAt w B A' n' vs) (hn : n ≤ 1048576) :
    Calls Try.prog 47 #[.slice A n c, .slice A' n' c'] w fun e w' => e = .returned (.bool true) ∧ ∃ m, w' = w.drewN m := by
  have he : n = n' := h.1.symm.trans h'.1
  subst he
  have hr := Lib.hid h; clear h
  have hr2 := Lib.hid h'; clear h'
  have hne : ((n : Int) != (n : Int)) = false := by simp
  go_enter Try.func47, Try.ntmps47
  go_wp2_with fail
  go_loopw [13] (fun i wr => ∃ k : Nat, k ≤ n ∧ i = .int .i64 k ∧ ∃ m, wr = w.drewN m) (fun i _ => n - (intOf i).toNat)
  case atStart => exact ⟨0, Nat.zero_le _, rfl, 0, rfl⟩
  case round =>
    obtain ⟨k, hk, rfl, m, rfl⟩ := hrel
    by_cases hlt : k < n
    · obtain ⟨b, off, rfl, _, c0, c1, c2⟩ := hr.out.2 k hlt
      obtain ⟨b', off', rfl, _, d0, d1, d2⟩ := hr2.out.2 k hlt
      generalize (getV vs k).1 = x1 at c0 d0
      generalize (getV vs k).2.1 = x2 at c1 d1
      generalize (getV vs k).2.2 = x3 at c2 d2
      go_wp2_with fail
      go_quiet (fail)
      go_wp2_with fail
      go_roundw
      case rel => exact ⟨k + 1, by omega, by go_num, _, rfl⟩
      case measure => simp [intOf]; omega
    · go_wp2_with fail
      go_ret
      exact ⟨rfl, _, rfl⟩
theorem hasS_any (A : Option Addr) (n c B : Nat) (xs : List Int) (x : Int) (w : World) (h : IntsAt w B A n xs) (hn : n ≤ 1048576) :
    Calls Try.prog 50 #[.slice A n c, .int .i64 x] w fun e w' => e = .returned (.bool (decide (x ∈ xs))) ∧ w' = w := by
  have hl := Lib.hid h.1
  have hr := Lib.hid h; clear h
  go_enter Try.func50, Try.ntmps50
  go_wp2_with fail
  go_loop [6, 9] (fun _ i => ∃ k : Nat, k ≤ n ∧ i = .int .i64 k ∧ Hid (∀ j, j < k → xs[j]?.getD 0 ≠ x)) (fun _ i => n - (intOf i).toNat)
  case atStart => exact ⟨0, Nat.zero_le _, rfl, Lib.hid (fun j hj => absurd hj (Nat.not_lt_zero _))⟩
  case round =>
    obtain ⟨k, hk, rfl, hall⟩ := hrel
    by_cases hlt : k < n
    · obtain ⟨b, off, e, _, hc⟩ := hr.out.2 k hlt
      subst e
      obtain ⟨y, hy⟩ : ∃ y, Hid (xs[k]?.getD 0 = y) := ⟨_, Lib.hid rfl⟩
      rw [hy.out] at hc
      by_cases he : y = x
      · have hq : (y == x) = true := by simp [he]
        have hin := Lib.hid (show decide (x ∈ xs) = true by
          have := hy.out
          rw [List.getElem?_eq_getElem (by rw [hl.out]; exact hlt), Option.getD_some] at this
          rw [decide_eq_true_iff, ← he, ← this]; exact List.getElem_mem _)
        clear he
        go_wp2_with fail
        go_ret
        exact ⟨ret_bool hin.out.symm, rfl⟩
      · have hq : (y == x) = false := by simp [he]
        have hall2 := Lib.hid (show ∀ j, j < k + 1 → xs[j]?.getD 0 ≠ x from fun j hj => by
          by_cases e : j = k
          · subst e; rw [hy.out]; exact he
          · exact hall.out j (by omega))
        clear he
        go_wp2_with fail
        go_round
        case rel => exact ⟨k + 1, by omega, by go_num, hall2⟩
        case measure => simp [intOf]; omega
    · have hin := Lib.hid (show decide (x ∈ xs) = false by
        rw [decide_eq_false_iff_not]
        intro hm
        obtain ⟨j, hj, e⟩ := List.mem_iff_getElem.1 hm
        refine hall.out j (by rw [hl.out] at hj; omega) ?_
        rw [List.getElem?_eq_getElem hj, Option.getD_some, e])
      go_wp2_with fail
      go_ret
      exact ⟨ret_bool hin.out.symm, rfl⟩
end Go.Proofs.Ythiegfbdmmpabaa

/- What is proved here: what the program's and the model's RunsOutAt return; the law on RunsOutAt returns true at every argument, and writes nothing that was there. No conditions. -/
namespace Go.Proofs.Ythiegfbdmmpabaa
open Go.RowKit

def runB (y keep : Int) : Bool := nowB y && keepB keep
def runR (y keep : Int) : Int := if runB y keep = true then y + keep + 1 else 0
theorem run_iff {y keep : Int} : runB y keep = true ↔ (1 ≤ y ∧ y ≤ 4000) ∧ 1 ≤ keep ∧ keep ≤ 100 := by
  unfold runB nowB keepB
  rw [Bool.and_eq_true, inB_iff, inB_iff]

set_option maxRecDepth 100000 in
set_option maxHeartbeats 800000 in
theorem implRuns_any (x y z keep : Int) (w : World) : Calls Try.prog 49 #[.agg #[.int .i64 x, .int .i64 y, .int .i64 z], .int .i64 keep] w (UpPost w (.tuple #[.int .i64 (runR y keep), .bool (runB y keep)])) := by
  have r3 := three_cells w x y z 63
  have hb := Lib.hid (bx_below w (.cells #[.int .i64 x, .int .i64 y, .int .i64 z] 63))
  have c1 := r3.cell (i := 1) (by omega)
  simp only [if_true, if_false, show (1 : Nat) ≠ 0 by decide] at c1
  clear r3
  cases h1 : nowB y
  · have hr := Lib.hid (show runB y keep = false by unfold runB; rw [h1]; rfl)
    have hv := Lib.hid (show runR y keep = 0 by unfold runR; rw [if_neg (by rw [hr.out]; decide)])
    go_enter Try.func49, Try.ntmps49
    go_wp2_with (go_at_call 119; refine (isSlot_any y _).mono ?_; rintro e w2 ⟨rfl, rfl⟩; rw [h1])
    go_ret2
    exact ⟨ret_two hv.out.symm hr.out.symm, hb.out⟩
  · cases h2 : keepB keep
    · have hr := Lib.hid (show runB y keep = false by unfold runB; rw [h2]; simp)
      have hv := Lib.hid (show runR y keep = 0 by unfold runR; rw [if_neg (by rw [hr.out]; decide)])
      go_enter Try.func49, Try.ntmps49
      go_wp2_with (first
        | (go_at_call 119; refine (isSlot_any y _).mono ?_; rintro e w2 ⟨rfl, rfl⟩; rw [h1])
        | (go_at_call 120; refine (isPer_any keep _).mono ?_; rintro e w2 ⟨rfl, rfl⟩; rw [h2]))
      go_ret2
      exact ⟨ret_two hv.out.symm hr.out.symm, hb.out⟩
    · have hr := Lib.hid (show runB y keep = true by unfold runB; rw [h1, h2]; rfl)
      have hv := Lib.hid (show runR y keep = y + keep + 1 by unfold runR; rw [if_pos hr.out])
      obtain ⟨b1, b2⟩ := run_iff.1 hr.out
      go_enter Try.func49, Try.ntmps49
      go_wp2_with (first
        | (go_at_call 119; refine (isSlot_any y _).mono ?_; rintro e w2 ⟨rfl, rfl⟩; rw [h1])
        | (go_at_call 120; refine (isPer_any keep _).mono ?_; rintro e w2 ⟨rfl, rfl⟩; rw [h2]))
      go_ret2
      exact ⟨ret_two (by rw [hv.out]) hr.out.symm, hb.out⟩
set_option maxRecDepth 100000 in
set_option maxHeartbeats 800000 in
theorem specRuns_any (x y z keep : Int) (w : World) : Calls Try.prog 55 #[.agg #[.int .i64 x, .int .i64 y, .int .i64 z], .int .i64 keep] w (UpPost w (.tuple #[.int .i64 (runR y keep), .bool (runB y keep)])) := by
  have r3 := three_cells w x y z 63
  have hb := Lib.hid (bx_below w (.cells #[.int .i64 x, .int .i64 y, .int .i64 z] 63))
  have c1 := r3.cell (i := 1) (by omega)
  simp only [if_true, if_false, show (1 : Nat) ≠ 0 by decide] at c1
  clear r3
  have q1 := Lib.hid (fun W => l1In_any y 1 4000 W)
  have q2 := Lib.hid (fun W => l1In_any keep 1 100 W)
  rw [show inB y 1 4000 = nowB y from rfl] at q1
  rw [show inB keep 1 100 = keepB keep from rfl] at q2
  cases h1 : nowB y
  · have hr := Lib.hid (show runB y keep = false by unfold runB; rw [h1]; rfl)
    have hv := Lib.hid (show runR y keep = 0 by unfold runR; rw [if_neg (by rw [hr.out]; decide)])
    rw [h1] at q1
    go_enter Try.func55, Try.ntmps55
    go_wp2_with (go_at_call 80; refine (q1.out _).mono ?_; rintro e w2 ⟨rfl, rfl⟩)
    go_ret2
    exact ⟨ret_two hv.out.symm hr.out.symm, hb.out⟩
  · rw [h1] at q1
    cases h2 : keepB keep
    · have hr := Lib.hid (show runB y keep = false by unfold runB; rw [h2]; simp)
      have hv := Lib.hid (show runR y keep = 0 by unfold runR; rw [if_neg (by rw [hr.out]; decide)])
      rw [h2] at q2
      have tk0 : True := trivial
      go_enter Try.func55, Try.ntmps55
      go_wp2_with (first
        | (clear tk0; go_at_call 80; refine (q1.out _).mono ?_; rintro e w2 ⟨rfl, rfl⟩)
        | (go_at_call 80; refine (q2.out _).mono ?_; rintro e w2 ⟨rfl, rfl⟩))
      go_ret2
      exact ⟨ret_two hv.out.symm hr.out.symm, hb.out⟩
    · have hr := Lib.hid (show runB y keep = true by unfold runB; rw [h1, h2]; rfl)
      have hv := Lib.hid (show runR y keep = y + keep + 1 by unfold runR; rw [if_pos hr.out])
      obtain ⟨b1, b2⟩ := run_iff.1 hr.out
      rw [h2] at q2
      have tk0 : True := trivial
      go_enter Try.func55, Try.ntmps55
      go_wp2_with (first
        | (clear tk0; go_at_call 80; refine (q1.out _).mono ?_; rintro e w2 ⟨rfl, rfl⟩)
        | (go_at_call 80; refine (q2.out _).mono ?_; rintro e w2 ⟨rfl, rfl⟩))
      go_ret2
      exact ⟨ret_two (by rw [hv.out]) hr.out.symm, hb.out⟩
end Go.Proofs.Ythiegfbdmmpabaa

/- What is proved here: plain facts on the votes that count in a slot: those whose period holds the slot, and none of them is of a voter that is asleep. No conditions. -/
namespace Go.Proofs.Ythiegfbdmmpabaa
open Go.RowKit

theorem getV_mem {l : List Vt} {k : Nat} (h : k < l.length) : getV l k ∈ l := by
  unfold getV; rw [List.getElem?_eq_getElem h, Option.getD_some]; exact List.getElem_mem h
theorem mem_getV {l : List Vt} {v : Vt} (h : v ∈ l) : ∃ k, k < l.length ∧ getV l k = v := by
  obtain ⟨j, hj, e⟩ := List.mem_iff_getElem.1 h
  exact ⟨j, hj, by unfold getV; rw [List.getElem?_eq_getElem hj, Option.getD_some, e]⟩
/-- A vote counts from behind its slot on until it runs out. -/
theorem runs_wit {ts : List Blk} {ss : List Int} {vs : List Vt} {now keep : Int} (h : trimOK ts ss vs now keep = true) {v : Vt} (hv : v ∈ vs) :
    runB v.2.1 keep = true ∧ runR v.2.1 keep = v.2.1 + keep + 1 ∧ witP (now - keep) now v = (decide (v.2.1 < now) && decide (now < v.2.1 + keep + 1)) := by
  obtain ⟨h1, h2, h3⟩ := trimOK_iff.1 h
  have hs := slot_in h1 hv
  have hr : runB v.2.1 keep = true := run_iff.2 ⟨hs, h3⟩
  refine ⟨hr, by unfold runR; rw [if_pos hr], ?_⟩
  unfold witP
  rw [Bool.and_comm]
  congr 1
  exact decide_eq_decide.2 (by omega)
theorem act_awake {ts : List Blk} {ss : List Int} {vs : List Vt} {now keep : Int} (h : trimOK ts ss vs now keep = true) {v : Vt} (hv : v ∈ vs) (hw : witP (now - keep) now v = true) : decide (v.1 ∈ asleepR ts ss vs now keep) = false := by
  refine decide_eq_false fun hm => ?_
  unfold asleepR at hm
  rw [if_pos h] at hm
  obtain ⟨i, e, _, hp⟩ := slpK_mem.1 hm
  unfold slpP at hp
  rw [Bool.and_eq_true, Bool.not_eq_true', decide_eq_false_iff_not] at hp
  have ha : v ∈ actR ts ss vs now keep := by unfold actR; rw [if_pos h]; exact List.mem_filter.2 ⟨hv, hw⟩
  obtain ⟨k, hk, e2⟩ := mem_getV ha
  exact hp.2 ((cnt_pos _).2 ⟨k, hk, by rw [e2, e]⟩)
theorem fin_trim {ts : List Blk} {ss : List Int} {vs : List Vt} {now keep : Int} (h : trimOK ts ss vs now keep = true) : finOK ts ss vs now = true ∧ trimOK ts ss (finR ts ss vs now) now keep = true ∧ trimR ts ss (finR ts ss vs now) now keep = actR ts ss vs now keep := by
  obtain ⟨h1, h2, h3⟩ := trimOK_iff.1 h
  have hf : finOK ts ss vs now = true := finOK_iff.2 ⟨h1, h2⟩
  have e : finR ts ss vs now = vs.filter (finP now) := by unfold finR; rw [if_pos hf]
  have ht : trimOK ts ss (finR ts ss vs now) now keep = true := trimOK_iff.2 ⟨by rw [e]; exact poolOk_filter h1 _, h2, h3⟩
  refine ⟨hf, ht, ?_⟩
  unfold trimR actR
  rw [if_pos ht, if_pos h, e, List.filter_filter]
  rfl
theorem act_count {ts : List Blk} {ss : List Int} {vs : List Vt} {now keep : Int} (h : trimOK ts ss vs now keep = true) : ((vs.take vs.length).filter (witP (now - keep) now)).length = (actR ts ss vs now keep).length := by
  unfold actR; rw [if_pos h, List.take_length]
end Go.Proofs.Ythiegfbdmmpabaa

/- What is proved here: the law FnActive returns true at every two slices of bytes, and writes nothing that was there. No conditions. Written by mk/mkfnactive.py. -/
namespace Go.Proofs.Ythiegfbdmmpabaa
open Go.RowKit

set_option maxHeartbeats 12800000 in
set_option maxRecDepth 100000 in
theorem lawActive (A A' : Option Addr) (n n' c c' : Nat) (w : World) (h : BytesIn w A n) (h' : BytesIn w A' n') (hr : n ≤ 140737488351232) (hr' : n' ≤ 140737488351232) :
    Calls Try.prog 11 #[.slice A n c, .slice A' n' c'] w fun e w' => e = .returned (.bool true) ∧ Below w.heap.size w w' := by
  by_cases hlen : n + n' ≤ 1048576
  · have hlen' : ¬ (1048576 : Int) < (n : Int) + (n' : Int) := by omega
    have h2' := Lib.hid h'
    clear h'
    go_enter Try.func11, Try.ntmps11
    go_wp2_with fail
    refine (drawActive_any A n c w h (by omega)).mono ?_
    rintro e w80 ⟨A1, n1, c1, ts, A2, n2, c2, ss, V, m, d, vs, now, keep, rfl, P1, _, b1⟩
    have hn1 : n1 ≤ 1048576 := by have := P1.hn; omega
    have hn2 : n2 ≤ 1048576 := by have := P1.hn'; omega
    have hm : m ≤ 1048576 := by have := P1.hm; omega
    have kx := bx_below w80 (.cells #[.slice V m d] 55)
    have x := Lib.hid (bx_row w80 (.slice V m d) 55)
    have p := Lib.hid (P1.up kx)
    have u := Lib.hid (b1.trans (kx.mono b1.size))
    clear P1 b1 kx
    have hx := x.out.cell (i := 0) (by omega)
    clear h
    have hal := actR_len ts ss vs now keep; have hsl := asleepR_len ts ss vs now keep
    obtain ⟨ok, hok⟩ : ∃ b, Hid (trimOK ts ss vs now keep = b) := ⟨_, Lib.hid rfl⟩
    have hq1 : (ok != ok) = false := by simp
    go_wp2_with fail
    refine (implActive_any A1 n1 c1 ts A2 n2 c2 ss V m d vs now keep _ p.out.blk p.out.int p.out.vot hn1 hn2 hm).mono ?_
    rintro e w1 ⟨A3, n3, c3, rfl, o3, b1⟩
    rw [hok.out]
    have k1 := bx_below w1 (.cells #[.slice A3 n3 c3] 55)
    have bb1 := b1.trans (k1.mono b1.size)
    have x3 := Lib.hid (bx_row w1 (.slice A3 n3 c3) 55)
    have v3 := Lib.hid (o3.votes.up k1)
    have l3 := Lib.hid o3.len
    clear b1 k1 o3
    replace u := Lib.hid (u.out.trans (bb1.mono u.out.size))
    clear hx
    replace p := Lib.hid (p.out.up bb1)
    replace x := Lib.hid (rowIs_below x.out bb1 x.out.lt)
    have hx := x.out.cell (i := 0) (by omega)
    clear bb1
    have hx3 := x3.out.cell (i := 0) (by omega)
    go_wp2_with fail
    refine (specActive_any A1 n1 c1 ts A2 n2 c2 ss V m d vs now keep _ p.out.blk p.out.int p.out.vot hn1 hn2 hm).mono ?_
    rintro e w2 ⟨A4, n4, c4, rfl, o4, b2⟩
    rw [hok.out]
    have k2 := bx_below w2 (.cells #[.slice A4 n4 c4] 55)
    have bb2 := b2.trans (k2.mono b2.size)
    have x4 := Lib.hid (bx_row w2 (.slice A4 n4 c4) 55)
    have v4 := Lib.hid (o4.votes.up k2)
    have l4 := Lib.hid o4.len
    clear b2 k2 o4
    replace u := Lib.hid (u.out.trans (bb2.mono u.out.size))
    clear hx hx3
    replace p := Lib.hid (p.out.up bb2)
    replace x := Lib.hid (rowIs_below x.out bb2 x.out.lt)
    replace x3 := Lib.hid (rowIs_below x3.out bb2 x3.out.lt)
    replace v3 := Lib.hid (v3.out.up bb2)
    have hx := x.out.cell (i := 0) (by omega)
    have hx3 := x3.out.cell (i := 0) (by omega)
    clear bb2
    have hx4 := x4.out.cell (i := 0) (by omega)
    go_wp2_with fail
    refine (implAsleep_any A1 n1 c1 ts A2 n2 c2 ss V m d vs now keep _ p.out.blk p.out.int p.out.vot hn1 hn2 hm).mono ?_
    rintro e w3 ⟨A5, n5, c5, rfl, o5, b3⟩
    rw [hok.out]
    replace u := Lib.hid (u.out.trans (b3.mono u.out.size))
    clear hx hx3 hx4
    replace p := Lib.hid (p.out.up b3)
    replace x := Lib.hid (rowIs_below x.out b3 x.out.lt)
    replace x3 := Lib.hid (rowIs_below x3.out b3 x3.out.lt)
    replace v3 := Lib.hid (v3.out.up b3)
    replace x4 := Lib.hid (rowIs_below x4.out b3 x4.out.lt)
    replace v4 := Lib.hid (v4.out.up b3)
    have hx := x.out.cell (i := 0) (by omega)
    have hx3 := x3.out.cell (i := 0) (by omega)
    have hx4 := x4.out.cell (i := 0) (by omega)
    clear b3
    have i5 := Lib.hid o5.ints; have l5 := Lib.hid o5.len
    clear o5
    go_wp2_with fail
    refine (specAsleep_any A1 n1 c1 ts A2 n2 c2 ss V m d vs now keep _ p.out.blk p.out.int p.out.vot hn1 hn2 hm).mono ?_
    rintro e w4 ⟨A6, n6, c6, rfl, o6, b4⟩
    rw [hok.out]
    replace u := Lib.hid (u.out.trans (b4.mono u.out.size))
    clear hx hx3 hx4
    replace p := Lib.hid (p.out.up b4)
    replace x := Lib.hid (rowIs_below x.out b4 x.out.lt)
    replace x3 := Lib.hid (rowIs_below x3.out b4 x3.out.lt)
    replace v3 := Lib.hid (v3.out.up b4)
    replace x4 := Lib.hid (rowIs_below x4.out b4 x4.out.lt)
    replace v4 := Lib.hid (v4.out.up b4)
    replace i5 := Lib.hid (i5.out.up' b4)
    have hx := x.out.cell (i := 0) (by omega)
    have hx3 := x3.out.cell (i := 0) (by omega)
    have hx4 := x4.out.cell (i := 0) (by omega)
    clear b4
    have i6 := Lib.hid o6.ints; have l6 := Lib.hid o6.len
    clear o6
    have hn3 : n3 ≤ 1048576 := by have := l3.out; omega
    have hn5 : n5 ≤ 1048576 := by have := l5.out; omega
    have hn6 : n6 ≤ 1048576 := by have := l6.out; omega
    have hsame := Lib.hid (eqB_yes (xs := asleepR ts ss vs now keep) (ys := asleepR ts ss vs now keep) rfl (fun _ _ => rfl))
    go_wp2_with fail
    refine (sameVotes_any A3 A4 n3 n4 c3 c4 _ (actR ts ss vs now keep) _ v3.out v4.out hn3).mono ?_
    rintro e w5 ⟨rfl, dr5, hw5⟩
    have b5 := drew_below hw5
    clear hw5
    replace u := Lib.hid (u.out.trans (b5.mono u.out.size))
    clear hx hx3 hx4
    replace p := Lib.hid (p.out.up b5)
    replace x := Lib.hid (rowIs_below x.out b5 x.out.lt)
    replace x3 := Lib.hid (rowIs_below x3.out b5 x3.out.lt)
    replace v3 := Lib.hid (v3.out.up b5)
    replace x4 := Lib.hid (rowIs_below x4.out b5 x4.out.lt)
    replace v4 := Lib.hid (v4.out.up b5)
    replace i5 := Lib.hid (i5.out.up' b5)
    replace i6 := Lib.hid (i6.out.up' b5)
    have hx := x.out.cell (i := 0) (by omega)
    have hx3 := x3.out.cell (i := 0) (by omega)
    have hx4 := x4.out.cell (i := 0) (by omega)
    clear b5
    go_wp2_with fail
    refine (sameInts_any A5 A6 n5 n6 c5 c6 _ (asleepR ts ss vs now keep) (asleepR ts ss vs now keep) _ i5.out i6.out hn5 hn6).mono ?_
    rintro e w6 ⟨rfl, dr6, hw6⟩
    have b6 := drew_below hw6
    clear hw6
    rw [hsame.out]
    replace u := Lib.hid (u.out.trans (b6.mono u.out.size))
    clear hx hx3 hx4
    replace p := Lib.hid (p.out.up b6)
    replace x := Lib.hid (rowIs_below x.out b6 x.out.lt)
    replace x3 := Lib.hid (rowIs_below x3.out b6 x3.out.lt)
    replace v3 := Lib.hid (v3.out.up b6)
    replace x4 := Lib.hid (rowIs_below x4.out b6 x4.out.lt)
    replace v4 := Lib.hid (v4.out.up b6)
    replace i5 := Lib.hid (i5.out.up' b6)
    replace i6 := Lib.hid (i6.out.up' b6)
    have hx := x.out.cell (i := 0) (by omega)
    have hx3 := x3.out.cell (i := 0) (by omega)
    have hx4 := x4.out.cell (i := 0) (by omega)
    clear b6
    clear hx4 x4
    clear v4
    clear i6
    cases ok
    · clear hx hx3
      clear p x x3 v3 i5
      clear hok hq1 hn1 hn2 hm hn3 hn5 hn6 hal hsl hsame l3 l4 l5 l6
      go_wp2_with fail
      refine (drawRuns_any A' n' c' _ (h2'.out.below u.out) (by omega)).mono ?_
      rintro e wR ⟨rx, ry, rz, rk, rfl, b1⟩
      have kR := bx_below wR (.cells #[.int .i64 rx, .int .i64 ry, .int .i64 rz] 63)
      have bR := b1.trans (kR.mono b1.size)
      have xR := Lib.hid (bx_row3 wR (.int .i64 rx) (.int .i64 ry) (.int .i64 rz) 63)
      clear b1 kR
      replace u := Lib.hid (u.out.trans (bR.mono u.out.size))
      clear bR
      have hxR_0 := row3_0 xR.out
      have hxR_1 := row3_1 xR.out
      have hxR_2 := row3_2 xR.out
      obtain ⟨rr, hrr⟩ : ∃ r, Hid (runR ry rk = r) := ⟨_, Lib.hid rfl⟩
      obtain ⟨rb, hrb⟩ : ∃ r, Hid (runB ry rk = r) := ⟨_, Lib.hid rfl⟩
      go_wp2_with fail
      refine (implRuns_any rx ry rz rk _).mono ?_
      rintro e w7 ⟨rfl, b7⟩
      rw [hrr.out]
      rw [hrb.out]
      replace u := Lib.hid (u.out.trans (b7.mono u.out.size))
      clear hxR_0 hxR_1 hxR_2
      replace xR := Lib.hid (rowIs_below xR.out b7 xR.out.lt)
      have hxR_0 := row3_0 xR.out
      have hxR_1 := row3_1 xR.out
      have hxR_2 := row3_2 xR.out
      clear b7
      go_wp2_with fail
      refine (specRuns_any rx ry rz rk _).mono ?_
      rintro e w8 ⟨rfl, b8⟩
      rw [hrr.out]
      rw [hrb.out]
      replace u := Lib.hid (u.out.trans (b8.mono u.out.size))
      clear hxR_0 hxR_1 hxR_2
      replace xR := Lib.hid (rowIs_below xR.out b8 xR.out.lt)
      have hxR_0 := row3_0 xR.out
      have hxR_1 := row3_1 xR.out
      have hxR_2 := row3_2 xR.out
      clear b8
      clear hxR_0 hxR_1 hxR_2 xR
      go_wp2_with fail
      refine (drawFinalView_any A' n' c' _ (h2'.out.below u.out) (by omega)).mono ?_
      rintro e w90 ⟨A1, n1, c1, ts, A2, n2, c2, ss, V, m, d, vs, now, rfl, P1, _, b1⟩
      have hn1 : n1 ≤ 1048576 := by have := P1.hn; omega
      have hn2 : n2 ≤ 1048576 := by have := P1.hn'; omega
      have hm : m ≤ 1048576 := by have := P1.hm; omega
      have kx := bx_below w90 (.cells #[.slice V m d] 55)
      have x := Lib.hid (bx_row w90 (.slice V m d) 55)
      have p := Lib.hid (P1.up kx)
      replace u := Lib.hid (u.out.trans ((b1.trans (kx.mono b1.size)).mono u.out.size))
      clear P1 b1 kx
      have hx := x.out.cell (i := 0) (by omega)
      have hfl := finR_len ts ss vs now
      obtain ⟨fk, hfk⟩ : ∃ b, Hid (finOK ts ss vs now = b) := ⟨_, Lib.hid rfl⟩
      go_wp2_with fail
      refine (implFinal_any A1 n1 c1 ts A2 n2 c2 ss V m d vs now _ p.out.blk p.out.int p.out.vot hn1 hn2 hm).mono ?_
      rintro e w9 ⟨A7, n7, c7, rfl, o7, b9⟩
      rw [hfk.out]
      have k9 := bx_below w9 (.cells #[.slice A7 n7 c7] 55)
      have bb9 := b9.trans (k9.mono b9.size)
      have x7 := Lib.hid (bx_row w9 (.slice A7 n7 c7) 55)
      have v7 := Lib.hid (o7.votes.up k9)
      have l7 := Lib.hid o7.len
      clear b9 k9 o7
      replace u := Lib.hid (u.out.trans (bb9.mono u.out.size))
      clear hx
      replace p := Lib.hid (p.out.up bb9)
      replace x := Lib.hid (rowIs_below x.out bb9 x.out.lt)
      have hx := x.out.cell (i := 0) (by omega)
      clear bb9
      have hx7 := x7.out.cell (i := 0) (by omega)
      go_wp2_with fail
      refine (specFinal_any A1 n1 c1 ts A2 n2 c2 ss V m d vs now _ p.out.blk p.out.int p.out.vot hn1 hn2 hm).mono ?_
      rintro e w10 ⟨A8, n8, c8, rfl, o8, b10⟩
      rw [hfk.out]
      have k10 := bx_below w10 (.cells #[.slice A8 n8 c8] 55)
      have bb10 := b10.trans (k10.mono b10.size)
      have x8 := Lib.hid (bx_row w10 (.slice A8 n8 c8) 55)
      have v8 := Lib.hid (o8.votes.up k10)
      have l8 := Lib.hid o8.len
      clear b10 k10 o8
      replace u := Lib.hid (u.out.trans (bb10.mono u.out.size))
      clear hx hx7
      replace p := Lib.hid (p.out.up bb10)
      replace x := Lib.hid (rowIs_below x.out bb10 x.out.lt)
      replace x7 := Lib.hid (rowIs_below x7.out bb10 x7.out.lt)
      replace v7 := Lib.hid (v7.out.up bb10)
      have hx := x.out.cell (i := 0) (by omega)
      have hx7 := x7.out.cell (i := 0) (by omega)
      clear bb10
      have hx8 := x8.out.cell (i := 0) (by omega)
      have hrq1 : (rb == rb) = true := by simp
      have hrq2 : (rr == rr) = true := by simp
      have hrq3 : (fk == fk) = true := by simp
      have hn7 : n7 ≤ 1048576 := by have := l7.out; omega
      go_wp2_with fail
      refine (sameVotes_any A7 A8 n7 n8 c7 c8 _ (finR ts ss vs now) _ v7.out v8.out hn7).mono ?_
      rintro e w11 ⟨rfl, dr11, hw11⟩
      have b11 := drew_below hw11
      clear hw11
      replace u := Lib.hid (u.out.trans (b11.mono u.out.size))
      clear hx hx7 hx8
      replace p := Lib.hid (p.out.up b11)
      replace x := Lib.hid (rowIs_below x.out b11 x.out.lt)
      replace x7 := Lib.hid (rowIs_below x7.out b11 x7.out.lt)
      replace v7 := Lib.hid (v7.out.up b11)
      replace x8 := Lib.hid (rowIs_below x8.out b11 x8.out.lt)
      replace v8 := Lib.hid (v8.out.up b11)
      have hx := x.out.cell (i := 0) (by omega)
      have hx7 := x7.out.cell (i := 0) (by omega)
      have hx8 := x8.out.cell (i := 0) (by omega)
      clear b11
      go_wp2_with fail
      go_ret
      exact ⟨rfl, u.out⟩
    · have hlv := Lib.hid p.out.vot.1
      have hcnt := Lib.hid (act_count hok.out)
      have hs60 := Lib.hid (show vs.length ≤ 60 from (poolOk_iff.1 (trimOK_iff.1 hok.out).1).1.2)
      have hkb := Lib.hid (show (1 ≤ now ∧ now ≤ 4000) ∧ 1 ≤ keep ∧ keep ≤ 100 from (trimOK_iff.1 hok.out).2)
      go_wp2_with fail
      go_loopw [18, 20, 21, 22, 117] (fun a _ _ _ i wr => ∃ k : Nat, k ≤ m ∧ i = .int .i64 k ∧ a = .int .i64 ((((vs.take k).filter (witP (now - keep) now)).length : Nat) : Int) ∧ Hid (Below w6.heap.size w6 wr)) (fun _ _ _ _ i _ => m - (intOf i).toNat)
      case atStart => exact ⟨0, Nat.zero_le _, rfl, rfl, Lib.hid (Below.refl _ _)⟩
      case round =>
        obtain ⟨k, hk, rfl, rfl, hl11⟩ := hrel
        have bq := hl11.out
        replace u := Lib.hid (u.out.trans (bq.mono u.out.size))
        clear hx hx3
        replace p := Lib.hid (p.out.up bq)
        replace x := Lib.hid (rowIs_below x.out bq x.out.lt)
        replace x3 := Lib.hid (rowIs_below x3.out bq x3.out.lt)
        replace v3 := Lib.hid (v3.out.up bq)
        replace i5 := Lib.hid (i5.out.up' bq)
        have hx := x.out.cell (i := 0) (by omega)
        have hx3 := x3.out.cell (i := 0) (by omega)
        clear bq
        by_cases hlt : k < m
        · obtain ⟨vb, vo, rfl, hvb, q0, q1, q2⟩ := p.out.vot.2 k hlt
          have hvm := getV_mem (l := vs) (k := k) (by rw [hlv.out]; exact hlt)
          have hst := Lib.hid (filter_step (witP (now - keep) now) (vs := vs) (k := k) (by rw [hlv.out]; exact hlt))
          have hfl := filter_len (witP (now - keep) now) (vs := vs) (k := k) (by rw [hlv.out]; exact hk)
          obtain ⟨v, hvk⟩ : ∃ v, getV vs k = v := ⟨_, rfl⟩
          rw [hvk] at q0 q1 q2 hvm hst
          obtain ⟨r1, r2, r3⟩ := v
          simp only at q0 q1 q2
          obtain ⟨hw1, hw2, hw3⟩ := runs_wit hok.out hvm
          have hrb := Lib.hid hw1; have hrv := Lib.hid hw2; have hwit := Lib.hid hw3
          have hawk := Lib.hid (fun hw => act_awake hok.out hvm hw)
          have hr2 := Lib.hid (slot_in (trimOK_iff.1 hok.out).1 hvm)
          simp only at hrb hrv hwit hawk hr2
          clear hw1 hw2 hw3 hvm hvk
          have kV := bx_below wr (.cells #[.int .i64 r1, .int .i64 r2, .int .i64 r3] 63)
          have xV := Lib.hid (bx_row3 wr (.int .i64 r1) (.int .i64 r2) (.int .i64 r3) 63)
          replace u := Lib.hid (u.out.trans (kV.mono u.out.size))
          replace hl11 := Lib.hid (hl11.out.trans (kV.mono hl11.out.size))
          clear hx hx3
          replace p := Lib.hid (p.out.up kV)
          replace x := Lib.hid (rowIs_below x.out kV x.out.lt)
          replace x3 := Lib.hid (rowIs_below x3.out kV x3.out.lt)
          replace v3 := Lib.hid (v3.out.up kV)
          replace i5 := Lib.hid (i5.out.up' kV)
          have hx := x.out.cell (i := 0) (by omega)
          have hx3 := x3.out.cell (i := 0) (by omega)
          clear kV
          have hxV_0 := row3_0 xV.out
          have hxV_1 := row3_1 xV.out
          have hxV_2 := row3_2 xV.out
          go_wp2_with fail
          refine (implRuns_any r1 r2 r3 keep _).mono ?_
          rintro e w12 ⟨rfl, b12⟩
          rw [hrv.out]
          rw [hrb.out]
          replace u := Lib.hid (u.out.trans (b12.mono u.out.size))
          replace hl11 := Lib.hid (hl11.out.trans (b12.mono hl11.out.size))
          clear hx hx3 hxV_0 hxV_1 hxV_2
          replace p := Lib.hid (p.out.up b12)
          replace x := Lib.hid (rowIs_below x.out b12 x.out.lt)
          replace x3 := Lib.hid (rowIs_below x3.out b12 x3.out.lt)
          replace v3 := Lib.hid (v3.out.up b12)
          replace i5 := Lib.hid (i5.out.up' b12)
          replace xV := Lib.hid (rowIs_below xV.out b12 xV.out.lt)
          have hx := x.out.cell (i := 0) (by omega)
          have hx3 := x3.out.cell (i := 0) (by omega)
          have hxV_0 := row3_0 xV.out
          have hxV_1 := row3_1 xV.out
          have hxV_2 := row3_2 xV.out
          clear b12
          have hkb2 := hkb.out; have hr22 := hr2.out
          clear q0 q1 q2
          by_cases h1 : r2 < now
          · by_cases h2 : now < r2 + keep + 1
            · have hw : witP (now - keep) now (r1, r2, r3) = true := by rw [hwit.out, decide_eq_true h1, decide_eq_true h2]; rfl
              have hno := Lib.hid (hawk.out hw)
              have hnx := Lib.hid (show ((vs.take (k + 1)).filter (witP (now - keep) now)).length = ((vs.take k).filter (witP (now - keep) now)).length + 1 by rw [hst.out, if_pos hw, List.length_append]; rfl)
              clear hw
              go_wp2_with fail
              refine (hasS_any A5 n5 c5 _ (asleepR ts ss vs now keep) r1 _ i5.out hn5).mono ?_
              rintro e w13 ⟨rfl, hw13⟩
              subst hw13
              rw [hno.out]
              go_wp2_with fail
              go_roundw
              case rel => exact ⟨k + 1, by omega, by go_num, by rw [hnx.out]; go_num, hl11⟩
              case measure => simp [intOf]; omega
            · have hw : witP (now - keep) now (r1, r2, r3) = false := by rw [hwit.out, decide_eq_true h1, decide_eq_false h2]; rfl
              have hnx := Lib.hid (show ((vs.take (k + 1)).filter (witP (now - keep) now)) = ((vs.take k).filter (witP (now - keep) now)) by rw [hst.out, if_neg (by rw [hw]; decide)])
              clear hw
              go_wp2_with fail
              go_roundw
              case rel => exact ⟨k + 1, by omega, by go_num, by rw [hnx.out], hl11⟩
              case measure => simp [intOf]; omega
          · have hw : witP (now - keep) now (r1, r2, r3) = false := by rw [hwit.out, decide_eq_false h1]; rfl
            have hnx := Lib.hid (show ((vs.take (k + 1)).filter (witP (now - keep) now)) = ((vs.take k).filter (witP (now - keep) now)) by rw [hst.out, if_neg (by rw [hw]; decide)])
            clear hw
            go_wp2_with fail
            go_roundw
            case rel => exact ⟨k + 1, by omega, by go_num, by rw [hnx.out], hl11⟩
            case measure => simp [intOf]; omega
        · have hcn : ((vs.take k).filter (witP (now - keep) now)).length = n3 := by
            rw [show k = vs.length by rw [hlv.out]; omega, hcnt.out, l3.out]
          rw [hcn]
          have hne : ((n3 : Int) != (n3 : Int)) = false := by simp
          obtain ⟨hf1, hf2, hf3⟩ := fin_trim hok.out
          have hft := Lib.hid hf1; have htt := Lib.hid hf2; have hte := Lib.hid hf3
          have hap := Lib.hid (act_pool hok.out)
          have hfl := finR_len ts ss vs now
          have hkI : ¬ (k : Int) < (m : Int) := by omega
          clear hf1 hf2 hf3 hcn
          go_wp2_with fail
          refine (goodPool_any A1 n1 c1 ts A2 n2 c2 ss A3 n3 c3 (actR ts ss vs now keep) _ p.out.blk p.out.int v3.out hn1 hn2 hn3).mono ?_
          rintro e w14 ⟨rfl, b14⟩
          rw [hap.out]
          replace u := Lib.hid (u.out.trans (b14.mono u.out.size))
          replace hl11 := Lib.hid (hl11.out.trans (b14.mono hl11.out.size))
          clear hx hx3
          replace p := Lib.hid (p.out.up b14)
          replace x := Lib.hid (rowIs_below x.out b14 x.out.lt)
          replace x3 := Lib.hid (rowIs_below x3.out b14 x3.out.lt)
          replace v3 := Lib.hid (v3.out.up b14)
          replace i5 := Lib.hid (i5.out.up' b14)
          have hx := x.out.cell (i := 0) (by omega)
          have hx3 := x3.out.cell (i := 0) (by omega)
          clear b14
          go_wp2_with fail
          refine (implFinal_any A1 n1 c1 ts A2 n2 c2 ss V m d vs now _ p.out.blk p.out.int p.out.vot hn1 hn2 hm).mono ?_
          rintro e w15 ⟨A9, n9, c9, rfl, o9, b15⟩
          rw [hft.out]
          have k15 := bx_below w15 (.cells #[.slice A9 n9 c9] 55)
          have bb15 := b15.trans (k15.mono b15.size)
          have x9 := Lib.hid (bx_row w15 (.slice A9 n9 c9) 55)
          have v9 := Lib.hid (o9.votes.up k15)
          have l9 := Lib.hid o9.len
          clear b15 k15 o9
          replace u := Lib.hid (u.out.trans (bb15.mono u.out.size))
          replace hl11 := Lib.hid (hl11.out.trans (bb15.mono hl11.out.size))
          clear hx hx3
          replace p := Lib.hid (p.out.up bb15)
          replace x := Lib.hid (rowIs_below x.out bb15 x.out.lt)
          replace x3 := Lib.hid (rowIs_below x3.out bb15 x3.out.lt)
          replace v3 := Lib.hid (v3.out.up bb15)
          replace i5 := Lib.hid (i5.out.up' bb15)
          have hx := x.out.cell (i := 0) (by omega)
          have hx3 := x3.out.cell (i := 0) (by omega)
          clear bb15
          have hx9 := x9.out.cell (i := 0) (by omega)
          have hn9 : n9 ≤ 1048576 := by have := l9.out; omega
          go_wp2_with fail
          refine (implTrim_any A1 n1 c1 ts A2 n2 c2 ss A9 n9 c9 (finR ts ss vs now) now keep _ p.out.blk p.out.int v9.out hn1 hn2 hn9).mono ?_
          rintro e w16 ⟨A10, n10, c10, rfl, o10, b16⟩
          rw [htt.out]
          have k16 := bx_below w16 (.cells #[.slice A10 n10 c10] 55)
          have bb16 := b16.trans (k16.mono b16.size)
          have x10 := Lib.hid (bx_row w16 (.slice A10 n10 c10) 55)
          have v10 := Lib.hid (o10.votes.up k16)
          have l10 := Lib.hid o10.len
          clear b16 k16 o10
          replace u := Lib.hid (u.out.trans (bb16.mono u.out.size))
          replace hl11 := Lib.hid (hl11.out.trans (bb16.mono hl11.out.size))
          clear hx hx3 hx9
          replace p := Lib.hid (p.out.up bb16)
          replace x := Lib.hid (rowIs_below x.out bb16 x.out.lt)
          replace x3 := Lib.hid (rowIs_below x3.out bb16 x3.out.lt)
          replace v3 := Lib.hid (v3.out.up bb16)
          replace i5 := Lib.hid (i5.out.up' bb16)
          replace x9 := Lib.hid (rowIs_below x9.out bb16 x9.out.lt)
          replace v9 := Lib.hid (v9.out.up bb16)
          have hx := x.out.cell (i := 0) (by omega)
          have hx3 := x3.out.cell (i := 0) (by omega)
          have hx9 := x9.out.cell (i := 0) (by omega)
          clear bb16
          have hx10 := x10.out.cell (i := 0) (by omega)
          rw [hte.out] at v10 l10
          have hn10 : n10 ≤ 1048576 := by have := l10.out; omega
          go_wp2_with fail
          refine (sameVotes_any A10 A3 n10 n3 c10 c3 _ (actR ts ss vs now keep) _ v10.out v3.out hn10).mono ?_
          rintro e w17 ⟨rfl, dr17, hw17⟩
          have b17 := drew_below hw17
          clear hw17
          replace u := Lib.hid (u.out.trans (b17.mono u.out.size))
          replace hl11 := Lib.hid (hl11.out.trans (b17.mono hl11.out.size))
          clear hx hx3 hx9 hx10
          replace p := Lib.hid (p.out.up b17)
          replace x := Lib.hid (rowIs_below x.out b17 x.out.lt)
          replace x3 := Lib.hid (rowIs_below x3.out b17 x3.out.lt)
          replace v3 := Lib.hid (v3.out.up b17)
          replace i5 := Lib.hid (i5.out.up' b17)
          replace x9 := Lib.hid (rowIs_below x9.out b17 x9.out.lt)
          replace v9 := Lib.hid (v9.out.up b17)
          replace x10 := Lib.hid (rowIs_below x10.out b17 x10.out.lt)
          replace v10 := Lib.hid (v10.out.up b17)
          have hx := x.out.cell (i := 0) (by omega)
          have hx3 := x3.out.cell (i := 0) (by omega)
          have hx9 := x9.out.cell (i := 0) (by omega)
          have hx10 := x10.out.cell (i := 0) (by omega)
          clear b17
          clear hx hx3 hx9 hx10
          clear p x x3 v3 i5 x9 v9 x10 v10
          clear hok hq1 hn1 hn2 hm hn3 hn5 hn6 hal hsl hsame l3 l4 l5 l6 hlv hcnt hs60 hkb hne hft htt hte hap hfl l9 l10 hn9 hn10 hkI hlt hk
          go_wp2_with fail
          refine (drawRuns_any A' n' c' _ (h2'.out.below u.out) (by omega)).mono ?_
          rintro e wR ⟨rx, ry, rz, rk, rfl, b1⟩
          have kR := bx_below wR (.cells #[.int .i64 rx, .int .i64 ry, .int .i64 rz] 63)
          have bR := b1.trans (kR.mono b1.size)
          have xR := Lib.hid (bx_row3 wR (.int .i64 rx) (.int .i64 ry) (.int .i64 rz) 63)
          clear b1 kR
          replace u := Lib.hid (u.out.trans (bR.mono u.out.size))
          clear bR
          have hxR_0 := row3_0 xR.out
          have hxR_1 := row3_1 xR.out
          have hxR_2 := row3_2 xR.out
          obtain ⟨rr, hrr⟩ : ∃ r, Hid (runR ry rk = r) := ⟨_, Lib.hid rfl⟩
          obtain ⟨rb, hrb⟩ : ∃ r, Hid (runB ry rk = r) := ⟨_, Lib.hid rfl⟩
          go_wp2_with fail
          refine (implRuns_any rx ry rz rk _).mono ?_
          rintro e w18 ⟨rfl, b18⟩
          rw [hrr.out]
          rw [hrb.out]
          replace u := Lib.hid (u.out.trans (b18.mono u.out.size))
          clear hxR_0 hxR_1 hxR_2
          replace xR := Lib.hid (rowIs_below xR.out b18 xR.out.lt)
          have hxR_0 := row3_0 xR.out
          have hxR_1 := row3_1 xR.out
          have hxR_2 := row3_2 xR.out
          clear b18
          go_wp2_with fail
          refine (specRuns_any rx ry rz rk _).mono ?_
          rintro e w19 ⟨rfl, b19⟩
          rw [hrr.out]
          rw [hrb.out]
          replace u := Lib.hid (u.out.trans (b19.mono u.out.size))
          clear hxR_0 hxR_1 hxR_2
          replace xR := Lib.hid (rowIs_below xR.out b19 xR.out.lt)
          have hxR_0 := row3_0 xR.out
          have hxR_1 := row3_1 xR.out
          have hxR_2 := row3_2 xR.out
          clear b19
          clear hxR_0 hxR_1 hxR_2 xR
          go_wp2_with fail
          refine (drawFinalView_any A' n' c' _ (h2'.out.below u.out) (by omega)).mono ?_
          rintro e w90 ⟨A1, n1, c1, ts, A2, n2, c2, ss, V, m, d, vs, now, rfl, P1, _, b1⟩
          have hn1 : n1 ≤ 1048576 := by have := P1.hn; omega
          have hn2 : n2 ≤ 1048576 := by have := P1.hn'; omega
          have hm : m ≤ 1048576 := by have := P1.hm; omega
          have kx := bx_below w90 (.cells #[.slice V m d] 55)
          have x := Lib.hid (bx_row w90 (.slice V m d) 55)
          have p := Lib.hid (P1.up kx)
          replace u := Lib.hid (u.out.trans ((b1.trans (kx.mono b1.size)).mono u.out.size))
          clear P1 b1 kx
          have hx := x.out.cell (i := 0) (by omega)
          have hfl := finR_len ts ss vs now
          obtain ⟨fk, hfk⟩ : ∃ b, Hid (finOK ts ss vs now = b) := ⟨_, Lib.hid rfl⟩
          go_wp2_with fail
          refine (implFinal_any A1 n1 c1 ts A2 n2 c2 ss V m d vs now _ p.out.blk p.out.int p.out.vot hn1 hn2 hm).mono ?_
          rintro e w20 ⟨A7, n7, c7, rfl, o7, b20⟩
          rw [hfk.out]
          have k20 := bx_below w20 (.cells #[.slice A7 n7 c7] 55)
          have bb20 := b20.trans (k20.mono b20.size)
          have x7 := Lib.hid (bx_row w20 (.slice A7 n7 c7) 55)
          have v7 := Lib.hid (o7.votes.up k20)
          have l7 := Lib.hid o7.len
          clear b20 k20 o7
          replace u := Lib.hid (u.out.trans (bb20.mono u.out.size))
          clear hx
          replace p := Lib.hid (p.out.up bb20)
          replace x := Lib.hid (rowIs_below x.out bb20 x.out.lt)
          have hx := x.out.cell (i := 0) (by omega)
          clear bb20
          have hx7 := x7.out.cell (i := 0) (by omega)
          go_wp2_with fail
          refine (specFinal_any A1 n1 c1 ts A2 n2 c2 ss V m d vs now _ p.out.blk p.out.int p.out.vot hn1 hn2 hm).mono ?_
          rintro e w21 ⟨A8, n8, c8, rfl, o8, b21⟩
          rw [hfk.out]
          have k21 := bx_below w21 (.cells #[.slice A8 n8 c8] 55)
          have bb21 := b21.trans (k21.mono b21.size)
          have x8 := Lib.hid (bx_row w21 (.slice A8 n8 c8) 55)
          have v8 := Lib.hid (o8.votes.up k21)
          have l8 := Lib.hid o8.len
          clear b21 k21 o8
          replace u := Lib.hid (u.out.trans (bb21.mono u.out.size))
          clear hx hx7
          replace p := Lib.hid (p.out.up bb21)
          replace x := Lib.hid (rowIs_below x.out bb21 x.out.lt)
          replace x7 := Lib.hid (rowIs_below x7.out bb21 x7.out.lt)
          replace v7 := Lib.hid (v7.out.up bb21)
          have hx := x.out.cell (i := 0) (by omega)
          have hx7 := x7.out.cell (i := 0) (by omega)
          clear bb21
          have hx8 := x8.out.cell (i := 0) (by omega)
          have hrq1 : (rb == rb) = true := by simp
          have hrq2 : (rr == rr) = true := by simp
          have hrq3 : (fk == fk) = true := by simp
          have hn7 : n7 ≤ 1048576 := by have := l7.out; omega
          go_wp2_with fail
          refine (sameVotes_any A7 A8 n7 n8 c7 c8 _ (finR ts ss vs now) _ v7.out v8.out hn7).mono ?_
          rintro e w22 ⟨rfl, dr22, hw22⟩
          have b22 := drew_below hw22
          clear hw22
          replace u := Lib.hid (u.out.trans (b22.mono u.out.size))
          clear hx hx7 hx8
          replace p := Lib.hid (p.out.up b22)
          replace x := Lib.hid (rowIs_below x.out b22 x.out.lt)
          replace x7 := Lib.hid (rowIs_below x7.out b22 x7.out.lt)
          replace v7 := Lib.hid (v7.out.up b22)
          replace x8 := Lib.hid (rowIs_below x8.out b22 x8.out.lt)
          replace v8 := Lib.hid (v8.out.up b22)
          have hx := x.out.cell (i := 0) (by omega)
          have hx7 := x7.out.cell (i := 0) (by omega)
          have hx8 := x8.out.cell (i := 0) (by omega)
          clear b22
          go_wp2_with fail
          go_ret
          exact ⟨rfl, u.out⟩
  · have hlen' : (1048576 : Int) < (n : Int) + (n' : Int) := by omega
    go_enter Try.func11, Try.ntmps11
    go_wp2_with fail
    go_ret
    exact ⟨rfl, Below.refl _ _⟩
end Go.Proofs.Ythiegfbdmmpabaa
