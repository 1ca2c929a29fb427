/- What is proved here: what the program's areVotes, compareVotes and GoodPool return. No conditions but lengths. -/
import Derived.Test.YthiegfbdmmpabaaVoteFacts
import Derived.StillTailTactics
import Derived.Deep.QuietTactic
import Derived.BigQuiet
namespace Go.Proofs.Ythiegfbdmmpabaa
open Go.RowKit

theorem isNaN_any (x : Int) (w : World) : Calls Try.prog 162 #[.int .i64 x] w fun e w' => e = .returned (.bool false) ∧ w' = w := by
  have hq : (x != x) = false := by simp
  go_enter Try.func162, Try.ntmps162
  go_wp2
  go_ret
  exact ⟨rfl, rfl⟩
theorem compareI_any (x y : Int) (w : World) : Calls Try.prog 105 #[.int .i64 x, .int .i64 y] w fun e w' => e = .returned (.int .i64 (cmpI x y)) ∧ w' = w := by
  by_cases h1 : x < y
  · have hr := Lib.hid (show cmpI x y = -1 from if_pos h1)
    go_enter Try.func105, Try.ntmps105
    go_wp2_with (go_at_call 162; refine (isNaN_any _ _).mono ?_; rintro e w' ⟨rfl, rfl⟩)
    go_ret
    exact ⟨ret_int hr.out.symm, rfl⟩
  · by_cases h2 : y < x
    · have hr := Lib.hid (show cmpI x y = 1 by unfold cmpI; rw [if_neg h1, if_pos h2])
      go_enter Try.func105, Try.ntmps105
      go_wp2_with (go_at_call 162; refine (isNaN_any _ _).mono ?_; rintro e w' ⟨rfl, rfl⟩)
      go_ret
      exact ⟨ret_int hr.out.symm, rfl⟩
    · have hr := Lib.hid (show cmpI x y = 0 by unfold cmpI; rw [if_neg h1, if_neg h2])
      go_enter Try.func105, Try.ntmps105
      go_wp2_with (go_at_call 162; refine (isNaN_any _ _).mono ?_; rintro e w' ⟨rfl, rfl⟩)
      go_ret
      exact ⟨ret_int hr.out.symm, rfl⟩

def or3 (x y z : Int) : Int := if x ≠ 0 then x else if y ≠ 0 then y else z
theorem or3_any (g : Nat) (x y z : Int) (w : World) (h0 : w.cell? ⟨g, 0, none⟩ = some (.int .i64 x)) (h1 : w.cell? ⟨g, 1, none⟩ = some (.int .i64 y)) (h2 : w.cell? ⟨g, 2, none⟩ = some (.int .i64 z)) :
    Calls Try.prog 104 #[.slice (some ⟨g, 0, none⟩) 3 3] w fun e w' => e = .returned (.int .i64 (or3 x y z)) ∧ w' = w := by
  have hc : ∀ k, k < 3 → w.cell? ⟨g, 0 + k, none⟩ = some (.int .i64 (if k = 0 then x else if k = 1 then y else z)) := fun k hk => by
    have : k = 0 ∨ k = 1 ∨ k = 2 := by omega
    rcases this with rfl | rfl | rfl <;> simp [h0, h1, h2]
  have hc' := Lib.hid hc
  clear hc h0 h1 h2
  go_enter Try.func104, Try.ntmps104
  go_wp2
  go_loop [5, 8] (fun _ i => ∃ k : Nat, k ≤ 3 ∧ i = .int .i64 k ∧ Hid (∀ j, j < k → (if j = 0 then x else if j = 1 then y else z) = 0)) (fun _ i => 3 - (intOf i).toNat)
  case atStart => exact ⟨0, by omega, rfl, Lib.hid (fun j hj => absurd hj (Nat.not_lt_zero _))⟩
  case round =>
    obtain ⟨k, hk, rfl, hall⟩ := hrel
    by_cases hlt : k < 3
    · have hck := hc'.out k hlt
      rw [Nat.zero_add] at hck
      obtain ⟨v, hv⟩ : ∃ v, (if k = 0 then x else if k = 1 then y else z) = v := ⟨_, rfl⟩
      rw [hv] at hck
      have hkI : (k : Int) < 3 := by omega
      have hv' := Lib.hid hv
      clear hv
      by_cases hz : v = 0
      · have hne : (v != 0) = false := by simp [hz]
        have hnext := Lib.hid (show ∀ j, j < k + 1 → (if j = 0 then x else if j = 1 then y else z) = 0 from fun j hj => by
          by_cases e : j = k
          · subst e; exact hv'.out.trans hz
          · exact hall.out j (by omega))
        clear hz
        go_wp2
        go_round
        case rel => exact ⟨k + 1, by omega, by go_num, hnext⟩
        case measure => simp [intOf]; omega
      · have hne : (v != 0) = true := by simp [hz]
        have hr := Lib.hid (show v = or3 x y z by
          unfold or3
          have h3 : k = 0 ∨ k = 1 ∨ k = 2 := by omega
          rcases h3 with rfl | rfl | rfl
          · have := hv'.out; simp at this; subst this; rw [if_pos hz]
          · have a0 := hall.out 0 (by omega); simp at a0
            have := hv'.out; simp at this; subst this
            rw [if_neg (by simp [a0]), if_pos hz]
          · have a0 := hall.out 0 (by omega); simp at a0
            have a1 := hall.out 1 (by omega); simp at a1
            have := hv'.out; simp at this; subst this
            rw [if_neg (by simp [a0]), if_neg (by simp [a1])])
        clear hz
        go_wp2
        go_ret
        exact ⟨ret_int hr.out, rfl⟩
    · have hk3 : k = 3 := by omega
      have hr := Lib.hid (show (0 : Int) = or3 x y z by
        unfold or3
        have a0 := hall.out 0 (by omega); simp at a0
        have a1 := hall.out 1 (by omega); simp at a1
        have a2 := hall.out 2 (by omega); simp at a2
        rw [if_neg (by simp [a0]), if_neg (by simp [a1]), a2])
      clear hk3
      go_wp2
      go_ret
      exact ⟨ret_int hr.out, rfl⟩

theorem cmpV_or (a b : Vt) : cmpV a b = or3 (cmpI a.1 b.1) (cmpI a.2.1 b.2.1) (cmpI a.2.2 b.2.2) := rfl
theorem row_three (w : World) (x y z : Int) : (w.alloc (.cells #[.int .i64 x, .int .i64 y, .int .i64 z] 3)).cell? ⟨w.heap.size, 0, none⟩ = some (.int .i64 x) ∧ (w.alloc (.cells #[.int .i64 x, .int .i64 y, .int .i64 z] 3)).cell? ⟨w.heap.size, 1, none⟩ = some (.int .i64 y) ∧ (w.alloc (.cells #[.int .i64 x, .int .i64 y, .int .i64 z] 3)).cell? ⟨w.heap.size, 2, none⟩ = some (.int .i64 z) := by
  have h : (w.alloc (.cells #[.int .i64 x, .int .i64 y, .int .i64 z] 3)).rowIs w.heap.size 3 3 (fun i => if i = 0 then .int .i64 x else if i = 1 then .int .i64 y else .int .i64 z) :=
    ⟨_, heap_alloc_new _ _, rfl, fun i hi => by
      have : i = 0 ∨ i = 1 ∨ i = 2 := by omega
      rcases this with rfl | rfl | rfl <;> rfl⟩
  exact ⟨h.cell (by omega), h.cell (by omega), h.cell (by omega)⟩

/-- Two structs of three numbers, boxed one after the other. -/
theorem two_boxes (w : World) (a1 a2 a3 b1 b2 b3 : Int) (t : TypeId) : ∃ W, (w.alloc (.cells #[.int .i64 a1, .int .i64 a2, .int .i64 a3] t)).alloc (.cells #[.int .i64 b1, .int .i64 b2, .int .i64 b3] t) = W ∧
    W.cell? ⟨w.heap.size, 0, none⟩ = some (.int .i64 a1) ∧ W.cell? ⟨w.heap.size, 1, none⟩ = some (.int .i64 a2) ∧ W.cell? ⟨w.heap.size, 2, none⟩ = some (.int .i64 a3) ∧
    W.cell? ⟨w.heap.size + 1, 0, none⟩ = some (.int .i64 b1) ∧ W.cell? ⟨w.heap.size + 1, 1, none⟩ = some (.int .i64 b2) ∧ W.cell? ⟨w.heap.size + 1, 2, none⟩ = some (.int .i64 b3) ∧ Below w.heap.size w W ∧ w.heap.size + 2 ≤ W.heap.size := by
  refine ⟨_, rfl, ?_⟩
  have hr1 : (w.alloc (.cells #[.int .i64 a1, .int .i64 a2, .int .i64 a3] t)).rowIs w.heap.size t 3 (fun i => if i = 0 then .int .i64 a1 else if i = 1 then .int .i64 a2 else .int .i64 a3) :=
    ⟨_, heap_alloc_new _ _, rfl, fun i hi => by
      have : i = 0 ∨ i = 1 ∨ i = 2 := by omega
      rcases this with rfl | rfl | rfl <;> rfl⟩
  have hb : Below (w.alloc (.cells #[.int .i64 a1, .int .i64 a2, .int .i64 a3] t)).heap.size (w.alloc (.cells #[.int .i64 a1, .int .i64 a2, .int .i64 a3] t)) ((w.alloc (.cells #[.int .i64 a1, .int .i64 a2, .int .i64 a3] t)).alloc (.cells #[.int .i64 b1, .int .i64 b2, .int .i64 b3] t)) := (Below.refl _ _).alloc (Nat.le_refl _) _
  have hr1' := rowIs_below hr1 hb (by simp)
  have hr2 : ((w.alloc (.cells #[.int .i64 a1, .int .i64 a2, .int .i64 a3] t)).alloc (.cells #[.int .i64 b1, .int .i64 b2, .int .i64 b3] t)).rowIs (w.heap.size + 1) t 3 (fun i => if i = 0 then .int .i64 b1 else if i = 1 then .int .i64 b2 else .int .i64 b3) :=
    ⟨_, by rw [show w.heap.size + 1 = (w.alloc (.cells #[.int .i64 a1, .int .i64 a2, .int .i64 a3] t)).heap.size by simp]; exact heap_alloc_new _ _, rfl, fun i hi => by
      have : i = 0 ∨ i = 1 ∨ i = 2 := by omega
      rcases this with rfl | rfl | rfl <;> rfl⟩
  exact ⟨hr1'.cell (by omega), hr1'.cell (by omega), hr1'.cell (by omega), hr2.cell (by omega), hr2.cell (by omega), hr2.cell (by omega), ((Below.refl w.heap.size w).alloc (Nat.le_refl _) _).alloc (by simp) _, by simp⟩

set_option maxRecDepth 100000 in
set_option maxHeartbeats 800000 in
theorem compareV_any (a1 a2 a3 b1 b2 b3 : Int) (w : World) : Calls Try.prog 122 #[.agg #[.int .i64 a1, .int .i64 a2, .int .i64 a3], .agg #[.int .i64 b1, .int .i64 b2, .int .i64 b3]] w fun e w' => e = .returned (.int .i64 (cmpV (a1, a2, a3) (b1, b2, b3))) ∧ Below w.heap.size w w' := by
  have hr := Lib.hid (cmpV_or (a1, a2, a3) (b1, b2, b3))
  obtain ⟨W, hW, c1, c2, c3, d1, d2, d3, hb, hs⟩ := two_boxes w a1 a2 a3 b1 b2 b3 63
  have hb' := Lib.hid hb
  have hW' := Lib.hid hW
  clear hb hW
  go_enter Try.func122, Try.ntmps122
  go_wp2_with fail
  rw [hW'.out]
  generalize w.heap.size + 1 = g2 at d1 d2 d3 hs ⊢
  generalize hg1 : w.heap.size = g1 at c1 c2 c3 hs hb' hW' ⊢
  have hg1' := Lib.hid hg1
  clear hg1
  go_still_tail 15, (by kernel_rfl)
  still_call (compareI_any _ _ _)
  repeat still_step
  still_call (compareI_any _ _ _)
  repeat still_step
  still_call (compareI_any _ _ _)
  repeat still_step
  try refine wpStill_nil ?_
  change wpList _ _ _ _ _ W.drew
  generalize hV : W.drew = V
  have hbV := Lib.hid (show Below g1 w V from by rw [← hV]; exact ⟨hb'.out.os, hb'.out.tape, hb'.out.output, hb'.out.size, hb'.out.block⟩)
  have hVs : g1 ≤ V.heap.size := by rw [← hV]; show g1 ≤ W.heap.size; omega
  obtain ⟨r0, r1, r2⟩ := row_three V (cmpI a1 b1) (cmpI a2 b2) (cmpI a3 b3)
  clear hV
  go_wp2_with fail
  refine (or3_any V.heap.size _ _ _ _ r0 r1 r2).mono ?_
  rintro e w' ⟨rfl, rfl⟩
  go_wp2_with fail
  go_ret
  exact ⟨ret_int hr.out.symm, by rw [hg1'.out]; exact hbV.out.alloc hVs _⟩
end Go.Proofs.Ythiegfbdmmpabaa

/- What is proved here: what the program's areVotes and GoodPool return. No conditions but lengths. -/
namespace Go.Proofs.Ythiegfbdmmpabaa
open Go.RowKit

/-- All up to a new box of one cell is as it was when the box was made. -/
structure Bx (w : World) (v : Value) (t : TypeId) (w' : World) : Prop where
  up : Below (w.heap.size + 1) (w.alloc (.cells #[v] t)) w'
section
variable {w w' w'' : World} {v : Value} {t : TypeId}
theorem bx_below (w : World) (o : Obj) : Below w.heap.size w (w.alloc o) := (Below.refl _ _).alloc (Nat.le_refl _) _
theorem bx_row (w : World) (v : Value) (t : TypeId) : (w.alloc (.cells #[v] t)).rowIs w.heap.size t 1 (fun _ => v) :=
  ⟨#[v], heap_alloc_new _ _, rfl, fun i hi => by
    have hi0 : i = 0 := by omega
    subst hi0; rfl⟩
theorem Bx.start (w : World) (v : Value) (t : TypeId) : Bx w v t (w.alloc (.cells #[v] t)) := ⟨Below.refl _ _⟩
theorem Bx.below (h : Bx w v t w') : Below w.heap.size w w' := (bx_below w _).trans (h.up.mono (Nat.le_succ _))
theorem Bx.size (h : Bx w v t w') : w.heap.size + 1 ≤ w'.heap.size := by have := h.up.size; simpa using this
theorem Bx.step (h : Bx w v t w') (hb : Below w'.heap.size w' w'') : Bx w v t w'' := ⟨h.up.trans (hb.mono h.size)⟩
theorem Bx.row (h : Bx w v t w') : w'.rowIs w.heap.size t 1 (fun _ => v) := (bx_row w v t).of_block (h.up.block _ (Nat.lt_succ_self _))
theorem Bx.cell (h : Bx w v t w') : w'.cell? ⟨w.heap.size, 0, none⟩ = some v := h.row.cell (i := 0) (by omega)
end
theorem three_cells (w : World) (x y z : Int) (t : TypeId) : (w.alloc (.cells #[.int .i64 x, .int .i64 y, .int .i64 z] t)).rowIs w.heap.size t 3 (fun i => if i = 0 then .int .i64 x else if i = 1 then .int .i64 y else .int .i64 z) :=
  ⟨_, heap_alloc_new _ _, rfl, fun i hi => by
    have : i = 0 ∨ i = 1 ∨ i = 2 := by omega
    rcases this with rfl | rfl | rfl <;> rfl⟩

theorem wrap_natV {K : Nat} (h : K ≤ 1048576) : IntKind.i64.wrap (K : Int) = (K : Int) := by simp [IntKind.wrap, IntKind.bits, IntKind.signed]; omega
theorem vote_no1 {ts : List Blk} {ns : Nat} {v : Vt} (h : v.1 < 0 ∨ (ns : Int) ≤ v.1) : voteOk ts ns v = false := by
  unfold voteOk; rcases h with h | h
  · rw [inB_low h]; rfl
  · rw [inB_high (by omega)]; rfl
theorem vote_no2 {ts : List Blk} {ns : Nat} {v : Vt} (h : v.2.2 < 0 ∨ (ts.length : Int) ≤ v.2.2) : voteOk ts ns v = false := by
  unfold voteOk; rcases h with h | h
  · rw [inB_low (n := v.2.2) h]; simp
  · rw [inB_high (n := v.2.2) (by omega)]; simp
theorem vote_no3 {ts : List Blk} {ns : Nat} {v : Vt} {q : Nat} (hq : v.2.2 = q) (h : v.2.1 < sloZ ts q ∨ v.2.1 < 1 ∨ 4000 < v.2.1) : voteOk ts ns v = false := by
  cases hc : voteOk ts ns v
  · rfl
  · obtain ⟨_, ⟨b, hb, _, hs⟩, h1, h2⟩ := voteOk_iff.1 hc
    have : b = q := by omega
    subst this
    omega
theorem vote_yes {ts : List Blk} {ns : Nat} {v : Vt} {q : Nat} (h1 : 0 ≤ v.1) (h2 : v.1 < ns) (hq : v.2.2 = q) (hqn : q < ts.length) (h3 : sloZ ts q ≤ v.2.1) (h4 : 1 ≤ v.2.1) (h5 : v.2.1 ≤ 4000) : voteOk ts ns v = true :=
  voteOk_iff.2 ⟨⟨v.1.toNat, by omega, by omega⟩, ⟨q, hq, hqn, h3⟩, h4, h5⟩
theorem votes_no {ts : List Blk} {ss : List Int} {vs : List Vt} {k : Nat} (hk : k < vs.length) (h : voteOk ts ss.length (getV vs k) = false) : votesOk ts ss vs = false := by
  unfold votesOk; rw [all_no hk h]; simp

set_option maxRecDepth 100000 in
set_option maxHeartbeats 1600000 in
theorem areVotes_any (A : Option Addr) (n c : Nat) (ts : List Blk) (A' : Option Addr) (n' c' : Nat) (ss : List Int) (V : Option Addr) (m d : Nat) (vs : List Vt) (w : World) (h : BlksAt w w.heap.size A n ts) (h' : IntsAt w w.heap.size A' n' ss) (hv : VotesAt w w.heap.size V m vs) (hn : n ≤ 1048576) (hn' : n' ≤ 1048576) (hm : m ≤ 1048576) :
    Calls Try.prog 121 #[.slice A n c, .slice A' n' c', .slice V m d] w (UpPost w (.bool (votesOk ts ss vs))) := by
  have hl := Lib.hid h.1; have hl' := Lib.hid h'.1; have hlv := Lib.hid hv.1
  have hh := Lib.hid h; have hh' := Lib.hid h'; have hvv := Lib.hid hv; clear h h' hv
  cases hg : goodT ts
  · have hr := Lib.hid (show votesOk ts ss vs = false by unfold votesOk; rw [hg]; rfl)
    go_enter Try.func121, Try.ntmps121
    go_wp2_with (go_at_call 84; refine (implGoodT_any _ _ _ ts _ hh.out hn).mono ?_; rintro e w1 ⟨rfl, b1⟩; rw [hg])
    go_ret
    exact ⟨ret_bool hr.out.symm, b1⟩
  · cases hs : goodB ss
    · have hr := Lib.hid (show votesOk ts ss vs = false by unfold votesOk; rw [hs]; simp)
      go_enter Try.func121, Try.ntmps121
      go_wp2_with (first
        | (go_at_call 84; refine (implGoodT_any _ _ _ ts _ hh.out hn).mono ?_; rintro e w1 ⟨rfl, b1⟩; rw [hg]; have u1 := Lib.hid b1; clear b1)
        | (go_at_call 85; refine (implGood_any _ _ _ _ ss _ (hh'.out.up' u1.out) hn').mono ?_; rintro e w2 ⟨rfl, rfl⟩; rw [hs]))
      go_ret
      exact ⟨ret_bool hr.out.symm, u1.out⟩
    · have ht := Lib.hid (goodT_iff.1 hg)
      have hs' := Lib.hid hs
      have hfew : n ≤ 24 := by rw [← hl.out]; exact ht.out.few
      have hfew' : n' ≤ 10 := by rw [← hl'.out]; exact (goodB_len hs).2
      go_enter Try.func121, Try.ntmps121
      go_wp2_with (first
        | (go_at_call 84; refine (implGoodT_any _ _ _ ts _ hh.out hn).mono ?_; rintro e w1 ⟨rfl, b1⟩; rw [hg]; have u1 := Lib.hid b1; clear b1)
        | (go_at_call 85; refine (implGood_any _ _ _ _ ss _ (hh'.out.up' u1.out) hn').mono ?_; rintro e w2 ⟨rfl, rfl⟩; rw [hs]))
      clear hs hg
      go_loopw [8, 19] (fun _ i wr => ∃ k : Nat, k ≤ m ∧ i = .int .i64 k ∧ Hid (∀ j, j < k → voteOk ts ss.length (getV vs j) = true) ∧ Hid (Below w.heap.size w wr)) (fun _ i _ => m - (intOf i).toNat)
      case atStart => exact ⟨0, Nat.zero_le _, rfl, Lib.hid (fun _ h => absurd h (Nat.not_lt_zero _)), u1⟩
      case round =>
        obtain ⟨k, hk, rfl, hall, hbel⟩ := hrel
        by_cases hlt : k < m
        · obtain ⟨vb, vo, rfl, hvb, c0, c1, c2⟩ := hvv.out.2 k hlt
          have c0' := (hbel.out.cell (p := ⟨vb, vo + k * 3, none⟩) hvb).trans c0
          have c1' := (hbel.out.cell (p := ⟨vb, vo + k * 3 + 1, none⟩) hvb).trans c1
          have c2' := (hbel.out.cell (p := ⟨vb, vo + k * 3 + 2, none⟩) hvb).trans c2
          obtain ⟨v, hvk⟩ : ∃ v, getV vs k = v := ⟨_, rfl⟩
          rw [hvk] at c0' c1' c2'
          obtain ⟨x, y, z⟩ := v
          simp only at c0' c1' c2'
          have hno := Lib.hid (fun (h : voteOk ts ss.length (x, y, z) = false) => votes_no (ts := ts) (ss := ss) (vs := vs) (k := k) (by rw [hlv.out]; exact hlt) (by rw [hvk]; exact h))
          have hyes := Lib.hid (fun (h : voteOk ts ss.length (x, y, z) = true) => (show ∀ j, j < k + 1 → voteOk ts ss.length (getV vs j) = true from fun j hj => by
            by_cases e : j = k
            · rw [e, hvk]; exact h
            · exact hall.out j (by omega)))
          have hb2 := Lib.hid (hbel.out.alloc hbel.out.size (.cells #[.int .i64 x, .int .i64 y, .int .i64 z] 63))
          have r3 := three_cells wr x y z 63
          have e0 := r3.cell (i := 0) (by omega)
          have e1 := r3.cell (i := 1) (by omega)
          have e2 := r3.cell (i := 2) (by omega)
          simp only [if_true, if_false, show (1 : Nat) ≠ 0 by decide, show (2 : Nat) ≠ 0 by decide, show (2 : Nat) ≠ 1 by decide] at e0 e1 e2
          clear c0 c1 c2 r3 hvk
          by_cases g1 : x < 0
          · have hr := Lib.hid (hno.out (vote_no1 (.inl g1)))
            go_wp2_with fail
            go_ret
            exact ⟨ret_bool hr.out.symm, hb2.out⟩
          · by_cases g2 : (n' : Int) ≤ x
            · have hr := Lib.hid (hno.out (vote_no1 (.inr (by rw [hl'.out]; exact g2))))
              go_wp2_with fail
              go_ret
              exact ⟨ret_bool hr.out.symm, hb2.out⟩
            · by_cases g3 : z < 0
              · have hr := Lib.hid (hno.out (vote_no2 (.inl g3)))
                go_wp2_with fail
                go_ret
                exact ⟨ret_bool hr.out.symm, hb2.out⟩
              · by_cases g4 : (n : Int) ≤ z
                · have hr := Lib.hid (hno.out (vote_no2 (.inr (by rw [hl.out]; exact g4))))
                  go_wp2_with fail
                  go_ret
                  exact ⟨ret_bool hr.out.symm, hb2.out⟩
                · obtain ⟨q, hq⟩ := Int.eq_ofNat_of_zero_le (show 0 ≤ z by omega)
                  subst hq
                  have hqn : q < n := by omega
                  obtain ⟨tb, to, rfl, htb, _, ds⟩ := hh.out.2 q hqn
                  obtain ⟨s, hsq⟩ : ∃ s, sloZ ts q = s := ⟨_, rfl⟩
                  have dS := (hb2.out.cell (p := ⟨tb, to + q * 2 + 1, none⟩) htb).trans ds
                  rw [show (ts[q]?.getD (0, 0)).2 = s from hsq] at dS
                  have hsq' := Lib.hid hsq
                  obtain ⟨M, hM⟩ : ∃ M, (if (1 : Int) > s then 1 else s) = M := ⟨_, rfl⟩
                  have hmx : ∀ (ar : Array TypeId) (t : TypeId) (W : World), (Builtin.max_ ar t #[.int .i64 s, .int .i64 1]).run Try.prog W = .ok (.int .i64 M) W := fun ar t W => by
                    rw [run_max_int2, hM]
                  have hMb : (y < M → y < s ∨ y < 1) ∧ (M ≤ y → s ≤ y ∧ 1 ≤ y) := by
                    rw [← hM]; split <;> omega
                  have hMb' := Lib.hid hMb
                  have hqI : (q : Int) < (n : Int) := by omega
                  clear ds hsq hM hMb
                  by_cases g5 : y < M
                  · have hd5 : decide (y < M) = true := decide_eq_true g5
                    have hr := Lib.hid (hno.out (vote_no3 (q := q) rfl (by rcases hMb'.out.1 g5 with h | h
                                                                           · exact .inl (by rw [hsq'.out]; exact h)
                                                                           · exact .inr (.inl h))))
                    go_wp2_with fail
                    go_quiet (fail)
                    go_wp2_with fail
                    go_ret
                    exact ⟨ret_bool hr.out.symm, below_drewN hb2.out _⟩
                  · have hd5 : decide (y < M) = false := decide_eq_false g5
                    by_cases g6 : 4000 < y
                    · have hd6 : decide (4000 < y) = true := decide_eq_true g6
                      have hr := Lib.hid (hno.out (vote_no3 (q := q) rfl (.inr (.inr g6))))
                      go_wp2_with fail
                      go_quiet (fail)
                      go_wp2_with fail
                      go_ret
                      exact ⟨ret_bool hr.out.symm, below_drewN hb2.out _⟩
                    · have hd6 : decide (4000 < y) = false := decide_eq_false g6
                      have hM2 := hMb'.out.2 (by omega)
                      have hr := Lib.hid (hyes.out (vote_yes (q := q) (by show 0 ≤ x; omega) (by show x < _; rw [hl'.out]; omega) rfl (by rw [hl.out]; exact hqn) (by rw [hsq'.out]; exact hM2.1) hM2.2 (by show y ≤ 4000; omega)))
                      clear hM2
                      go_wp2_with fail
                      go_quiet (fail)
                      go_wp2_with fail
                      go_roundw
                      case rel => exact ⟨k + 1, by omega, by go_num, hr, Lib.hid (below_drewN hb2.out _)⟩
                      case measure => simp [intOf]; omega
        · have hr := Lib.hid (show votesOk ts ss vs = true from votesOk_iff.2 ⟨⟨ht.out, hs'.out⟩, fun j hj => hall.out j (by rw [hlv.out] at hj; omega)⟩)
          go_wp2_with fail
          go_ret
          exact ⟨ret_bool hr.out.symm, hbel.out⟩

set_option maxRecDepth 100000 in
set_option maxHeartbeats 1600000 in
theorem goodPool_any (A : Option Addr) (n c : Nat) (ts : List Blk) (A' : Option Addr) (n' c' : Nat) (ss : List Int) (V : Option Addr) (m d : Nat) (vs : List Vt) (w : World) (h : BlksAt w w.heap.size A n ts) (h' : IntsAt w w.heap.size A' n' ss) (hv : VotesAt w w.heap.size V m vs) (hn : n ≤ 1048576) (hn' : n' ≤ 1048576) (hm : m ≤ 1048576) :
    Calls Try.prog 51 #[.slice A n c, .slice A' n' c', .agg #[.slice V m d]] w (UpPost w (.bool (poolOk ts ss vs))) := by
  have hl := Lib.hid h.1; have hl' := Lib.hid h'.1; have hlv := Lib.hid hv.1
  have hh := Lib.hid h; have hh' := Lib.hid h'; have hvv := Lib.hid hv; clear h h' hv
  have bx0 := Lib.hid (Bx.start w (.slice V m d) 55)
  have hc0 := bx0.out.cell
  by_cases h60 : 60 < m
  · have hr := Lib.hid (show poolOk ts ss vs = false by unfold poolOk; rw [decide_eq_false (by rw [hlv.out]; omega)]; simp)
    have h60I : (60 : Int) < (m : Int) := by omega
    go_enter Try.func51, Try.ntmps51
    go_wp2_with fail
    go_ret
    exact ⟨ret_bool hr.out.symm, bx0.out.below⟩
  · have h60I : ¬ (60 : Int) < (m : Int) := by omega
    cases hg : votesOk ts ss vs
    · have hr := Lib.hid (pool_votes hg)
      go_enter Try.func51, Try.ntmps51
      go_wp2_with (go_at_call 121; refine (areVotes_any A n c ts A' n' c' ss V m d vs _ (hh.out.up bx0.out.below) (hh'.out.up' bx0.out.below) (hvv.out.up bx0.out.below) hn hn' hm).mono ?_; rintro e w1 ⟨rfl, b1⟩; rw [hg]; have bx1 := Lib.hid (bx0.out.step b1); clear b1)
      go_ret
      exact ⟨ret_bool hr.out.symm, bx1.out.below⟩
    · have hall := Lib.hid (votesOk_iff.1 hg)
      go_enter Try.func51, Try.ntmps51
      go_wp2_with (go_at_call 121; refine (areVotes_any A n c ts A' n' c' ss V m d vs _ (hh.out.up bx0.out.below) (hh'.out.up' bx0.out.below) (hvv.out.up bx0.out.below) hn hn' hm).mono ?_; rintro e w1 ⟨rfl, b1⟩; rw [hg]; have bx1 := Lib.hid (bx0.out.step b1); have hc1 := bx1.out.cell; clear b1)
      clear hc1 hc0
      go_loopw [7] (fun i wr => ∃ k : Nat, 1 ≤ k ∧ (k ≤ m ∨ k = 1) ∧ i = .int .i64 k ∧ Hid (∀ j, j < k → j ≠ 0 → lessV (getV vs (j - 1)) (getV vs j) = true) ∧ Hid (Bx w (.slice V m d) 55 wr)) (fun i _ => m + 1 - (intOf i).toNat)
      case atStart => exact ⟨1, Nat.le_refl _, .inr rfl, rfl, Lib.hid (fun j h0 h1 => absurd h0 (by omega)), bx1⟩
      case round =>
        obtain ⟨k, hk1, hk, rfl, hls, hbx⟩ := hrel
        have hcx := hbx.out.cell
        by_cases hlt : k < m
        · obtain ⟨vb, vo, rfl, hvb, hcs⟩ := hvv.out.at (by omega)
          have p0 := (hbx.out.below.cell (p := ⟨vb, vo + (k - 1) * 3, none⟩) hvb).trans (hcs (k - 1) (by omega)).1
          have p1 := (hbx.out.below.cell (p := ⟨vb, vo + (k - 1) * 3 + 1, none⟩) hvb).trans (hcs (k - 1) (by omega)).2.1
          have p2 := (hbx.out.below.cell (p := ⟨vb, vo + (k - 1) * 3 + 2, none⟩) hvb).trans (hcs (k - 1) (by omega)).2.2
          have q0 := (hbx.out.below.cell (p := ⟨vb, vo + k * 3, none⟩) hvb).trans (hcs k hlt).1
          have q1 := (hbx.out.below.cell (p := ⟨vb, vo + k * 3 + 1, none⟩) hvb).trans (hcs k hlt).2.1
          have q2 := (hbx.out.below.cell (p := ⟨vb, vo + k * 3 + 2, none⟩) hvb).trans (hcs k hlt).2.2
          obtain ⟨a, ha⟩ : ∃ a, getV vs (k - 1) = a := ⟨_, rfl⟩
          obtain ⟨b, hb⟩ : ∃ b, getV vs k = b := ⟨_, rfl⟩
          rw [ha] at p0 p1 p2
          rw [hb] at q0 q1 q2
          obtain ⟨a1, a2, a3⟩ := a
          obtain ⟨b1, b2, b3⟩ := b
          simp only at p0 p1 p2 q0 q1 q2
          have hlc := Lib.hid (show lessV (getV vs (k - 1)) (getV vs k) = decide (cmpV (a1, a2, a3) (b1, b2, b3) < 0) by rw [ha, hb]; exact cmp_less _ _)
          obtain ⟨K, hK⟩ : ∃ K, k - 1 = K := ⟨_, rfl⟩
          rw [hK] at p0 p1 p2
          have hKI : (k : Int) - 1 = (K : Int) := by omega
          have hKm : K < m := by omega
          have hkI : (k : Int) < (m : Int) := by omega
          obtain ⟨r, hr⟩ : ∃ r, cmpV (a1, a2, a3) (b1, b2, b3) = r := ⟨_, rfl⟩
          rw [hr] at hlc
          have hcall := Lib.hid (fun W => compareV_any a1 a2 a3 b1 b2 b3 W)
          rw [hr] at hcall
          have hKw : IntKind.i64.wrap ((k : Int) - 1) = (K : Int) := by rw [hKI]; exact wrap_natV (by omega)
          clear hcs ha hb hr hK hKI
          by_cases hrn : r < 0
          · have hno : ¬ 0 ≤ r := by omega
            have hnext := Lib.hid (show ∀ j, j < k + 1 → j ≠ 0 → lessV (getV vs (j - 1)) (getV vs j) = true from fun j hj h0 => by
              by_cases e : j = k
              · rw [e, hlc.out]; exact decide_eq_true hrn
              · exact hls.out j (by omega) h0)
            clear hrn
            go_wp2_with fail
            go_still_tail 11, (by kernel_rfl)
            change wpList _ _ _ _ _ wr.drew
            go_wp2_with (go_at_call 122; refine (hcall.out _).mono ?_; rintro e w2 ⟨rfl, b2⟩; have bx2 := Lib.hid (hbx.out.step (show Below wr.heap.size wr w2 from ⟨b2.os, b2.tape, b2.output, b2.size, b2.block⟩)); clear b2)
            go_roundw
            case rel => exact ⟨k + 1, by omega, by omega, by go_num, hnext, bx2⟩
            case measure => simp [intOf]; omega
          · have hyes : 0 ≤ r := by omega
            have hr := Lib.hid (show poolOk ts ss vs = false by
              unfold poolOk
              rw [all_no (f := poolAt ts ss.length vs) (k := k) (by rw [hlv.out]; exact hlt) (by unfold poolAt; rw [hlc.out, decide_eq_false hrn, decide_eq_false (show ¬ k = 0 by omega)]; simp)]; simp)
            clear hrn
            go_wp2_with fail
            go_still_tail 11, (by kernel_rfl)
            change wpList _ _ _ _ _ wr.drew
            go_wp2_with (go_at_call 122; refine (hcall.out _).mono ?_; rintro e w2 ⟨rfl, b2⟩; have bx2 := Lib.hid (hbx.out.step (show Below wr.heap.size wr w2 from ⟨b2.os, b2.tape, b2.output, b2.size, b2.block⟩)); clear b2)
            go_ret
            exact ⟨ret_bool hr.out.symm, bx2.out.below⟩
        · have hr := Lib.hid (show poolOk ts ss vs = true from poolOk_iff.2 ⟨⟨hall.out.1, by rw [hlv.out]; omega⟩, hall.out.2, fun j hj h0 => hls.out j (by rw [hlv.out] at hj; omega) h0⟩)
          go_wp2_with fail
          go_ret
          exact ⟨ret_bool hr.out.symm, hbx.out.below⟩
end Go.Proofs.Ythiegfbdmmpabaa
