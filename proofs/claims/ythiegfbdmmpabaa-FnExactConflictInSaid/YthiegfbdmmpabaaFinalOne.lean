/- What is proved here: what the program's look for a linked child of a block returns (a range over a function that is left by a return). No conditions but lengths. -/
import Derived.Test.YthiegfbdmmpabaaJustImpl
import Derived.Test.YthiegfbdmmpabaaTourIter
namespace Go.Proofs.Ythiegfbdmmpabaa
open Go.RowKit Go.Shelf

attribute [local go_sem] Oper.semAt_some

theorem results_cell_bool {P : Program} {fn : Func} {p : Tmp} {ty : TypeId} (h : fn.results = #[.cell p ty]) (tmps : Array Value) (w : World) (g : Nat) (v : Value)
    (hp : tmps.getD p undef = .pointer (some ⟨g, 0, none⟩)) (hc : w.cell? ⟨g, 0, none⟩ = some v) (ha : (isAgg ty).run P w = .ok false w) :
    (results fn tmps).run P w = .ok v w := by
  have hp' : tmps[p]?.getD undef = .pointer (some ⟨g, 0, none⟩) := by simpa using hp
  simp [results, h, hp', asAddr, loadVar, ha, hc, Sem.run_bind, Result.andThen]
/-- The boxes of the look: the tree, the stakes, the links, the block and the result. -/
structure FiInv (n0 : Nat) (w : World) (g1 g2 g3 g4 g5 : Nat) (A : Option Addr) (n c : Nat) (A' : Option Addr) (n' c' : Nat) (V : Option Addr) (m d b : Nat) (v : Bool) (Pr : Nat → Prop) (W : World) : Prop where
  r1 : Boxed W g1 28 (.slice A n c)
  r2 : Boxed W g2 23 (.slice A' n' c')
  r3 : Boxed W g3 31 (.slice V m d)
  r4 : Boxed W g4 3 (.int .i64 b)
  r5 : Boxed W g5 4 (.bool v)
  lo : g1 < n0 ∧ g2 < n0 ∧ g3 < n0 ∧ n0 ≤ g4 ∧ n0 ≤ g5 ∧ g4 ≠ g5
  np : ¬ Pr g4 ∧ ¬ Pr g5
  there : ∀ k, Pr k → k < W.heap.size
  high : ∀ k, Pr k → n0 ≤ k
  below : Below n0 w W
theorem FiInv.step {n0 : Nat} {w : World} {g1 g2 g3 g4 g5 n c n' c' m d b : Nat} {A A' V : Option Addr} {v : Bool} {Pr Pr' : Nat → Prop} {W W' : World} {row : Option Nat} (h : FiInv n0 w g1 g2 g3 g4 g5 A n c A' n' c' V m d b v Pr W) (hn0 : n0 ≤ w.heap.size)
    (hg : W.grownBy W' row) (hr : ∀ q, row = some q → Pr q) (hp : ∀ k, Pr' k → Pr k ∨ W.heap.size ≤ k ∧ k < W'.heap.size) : FiInv n0 w g1 g2 g3 g4 g5 A n c A' n' c' V m d b v Pr' W' := by
  have hs := h.below.size
  obtain ⟨a1, a2, a3, a4, a5, a6⟩ := h.lo
  have l4 := h.r4.lt; have l5 := h.r5.lt
  have ne : ∀ q, q < n0 → some q ≠ row := fun q hq e => by have := h.high q (hr q e.symm); omega
  have np' : ∀ q, q < W.heap.size → ¬ Pr q → ¬ Pr' q := fun q hq hn hp' => by
    rcases hp q hp' with h1 | h1
    · exact hn h1
    · omega
  refine ⟨h.r1.kept hg (ne _ a1), h.r2.kept hg (ne _ a2), h.r3.kept hg (ne _ a3), h.r4.kept hg (fun e => h.np.1 (hr _ e.symm)), h.r5.kept hg (fun e => h.np.2 (hr _ e.symm)), h.lo, ⟨np' _ l4 h.np.1, np' _ l5 h.np.2⟩, fun k hk => ?_, fun k hk => ?_, h.below.grown hg (by omega) (fun k e => h.high k (hr k e))⟩
  · rcases hp k hk with h1 | h1
    · exact Nat.lt_of_lt_of_le (h.there k h1) hg.size
    · exact h1.2
  · rcases hp k hk with h1 | h1
    · exact h.high k h1
    · omega
theorem FiInv.up {n0 : Nat} {w : World} {g1 g2 g3 g4 g5 n c n' c' m d b : Nat} {A A' V : Option Addr} {v : Bool} {Pr : Nat → Prop} {W W' : World} (h : FiInv n0 w g1 g2 g3 g4 g5 A n c A' n' c' V m d b v Pr W) (hn0 : n0 ≤ w.heap.size) (hb : Below W.heap.size W W') : FiInv n0 w g1 g2 g3 g4 g5 A n c A' n' c' V m d b v Pr W' :=
  h.step hn0 (row := none) ⟨hb.os, hb.tape, hb.output, hb.size, fun k hk _ => hb.block k hk⟩ (fun _ e => by cases e) (fun _ hk => .inl hk)
theorem FiInv.put {n0 : Nat} {w : World} {g1 g2 g3 g4 g5 n c n' c' m d b : Nat} {A A' V : Option Addr} {v : Bool} {Pr : Nat → Prop} {W : World} (h : FiInv n0 w g1 g2 g3 g4 g5 A n c A' n' c' V m d b v Pr W) (v' : Bool) :
    FiInv n0 w g1 g2 g3 g4 g5 A n c A' n' c' V m d b v' Pr (W.setCell ⟨g5, 0, none⟩ (.bool v')) ∧ Kept Pr W (W.setCell ⟨g5, 0, none⟩ (.bool v')) ∧ Below n0 W (W.setCell ⟨g5, 0, none⟩ (.bool v')) := by
  have g := grownBy_setCell' W g5 (.bool v')
  obtain ⟨a1, a2, a3, a4, a5, a6⟩ := h.lo
  have hb := (Below.refl n0 W).setCell (p := ⟨g5, 0, none⟩) a5 (.bool v')
  refine ⟨⟨h.r1.kept g (fun e => by injection e with e; omega), h.r2.kept g (fun e => by injection e with e; omega), h.r3.kept g (fun e => by injection e with e; omega), h.r4.kept g (fun e => by injection e with e; omega), h.r5.set _, h.lo, h.np, fun k hk => Nat.lt_of_lt_of_le (h.there k hk) g.size, h.high, h.below.trans hb⟩, Kept.step g (fun r e _ hp => by cases e; exact h.np.2 hp), hb⟩
theorem finl_kids {ts : List Blk} {ss : List Int} {vs : List Vt} {b n : Nat} (hl : ts.length = n) : (∀ y ∈ kidsL ts b n, grB ss vs b (y : Int) = false) → finlP ts ss vs b = false := fun h => by
  unfold finlP
  rw [List.any_eq_false]
  intro x hx
  have hx' := List.mem_range.1 hx
  intro he
  rw [Bool.and_eq_true, beq_iff_eq] at he
  rw [h x (kids_mem.2 ⟨by omega, he.1⟩)] at he
  exact absurd he.2 (by decide)
theorem finl_kid {ts : List Blk} {ss : List Int} {vs : List Vt} {b n : Nat} (hl : ts.length = n) {y : Nat} (hy : y ∈ kidsL ts b n) (h : grB ss vs b (y : Int) = true) : finlP ts ss vs b = true := by
  unfold finlP
  obtain ⟨h1, h2⟩ := kids_mem.1 hy
  exact List.any_eq_true.2 ⟨y, List.mem_range.2 (by omega), by rw [h2, h]; simp⟩

set_option maxRecDepth 100000 in
set_option maxHeartbeats 2000000 in
theorem fin1_any (A : Option Addr) (n c : Nat) (ts : List Blk) (A' : Option Addr) (n' c' : Nat) (ss : List Int) (V : Option Addr) (m d : Nat) (vs : List Vt) (b g1 g2 g3 : Nat) (w : World) (hok : linksOk ts ss vs = true) (h : BlksAt w w.heap.size A n ts) (h' : IntsAt w w.heap.size A' n' ss) (hv : VotesAt w w.heap.size V m vs)
    (c1 : Boxed w g1 28 (.slice A n c)) (c2 : Boxed w g2 23 (.slice A' n' c')) (c3 : Boxed w g3 31 (.slice V m d)) :
    Calls Try.prog 98 #[.int .i64 b, .pointer (some ⟨g1, 0, none⟩), .pointer (some ⟨g2, 0, none⟩), .pointer (some ⟨g3, 0, none⟩)] w (UpPost w (.bool (finlP ts ss vs b))) := by
  have hl := Lib.hid h.1
  have hn : n ≤ 1048576 := by have := (linksOk_iff.1 hok).1.1.1.few; rw [h.1] at this; omega
  have hh := Lib.hid h; have hh' := Lib.hid h'; have hvv := Lib.hid hv; have hok' := Lib.hid hok
  have k1 := Lib.hid c1; have k2 := Lib.hid c2; have k3 := Lib.hid c3
  have d1 := ((c1.alloc (.cells #[.int .i64 b] 3)).alloc (.cells #[.bool false] 4)).cell
  clear h h' hv c1 c2 c3 hok
  refine (callsIn_wide (n := 0)).1 ?_
  refine callsIn_of_wp_marks Try.func98 rfl trivial ?_ rfl
  simp only [Try.ntmps98, List.size_toArray, List.length_cons, List.length_nil, Nat.reduceAdd, Nat.reduceSub, Array.replicate_succ, Array.replicate_zero, List.push_toArray, List.append_toArray, List.nil_append, List.cons_append]
  gi_wp2
  refine ⟨trivial, rfl, (callsIn_wide.2 (childrenIn_any A n c b _)).mono ?_⟩
  rintro e W3 ⟨rfl, hW3⟩
  obtain ⟨W2, hW2⟩ : ∃ W2, (w.alloc (.cells #[.int .i64 b] 3)).alloc (.cells #[.bool false] 4) = W2 := ⟨_, rfl⟩
  rw [hW2] at hW3 d1 ⊢
  have hs2 : W2.heap.size = w.heap.size + 2 := by rw [← hW2]; simp
  have hs3 : W3.heap.size = W2.heap.size + 2 := by rw [← hW3]; simp
  have hb2 : Below w.heap.size w W2 := by rw [← hW2]; exact ((Below.refl _ w).alloc (Nat.le_refl _) _).alloc (by simp) _
  have hb3 : Below W2.heap.size W2 W3 := by rw [← hW3]; exact ((Below.refl _ W2).alloc (Nat.le_refl _) _).alloc (by simp) _
  have c0 : Boxed W3 W2.heap.size 28 (.slice A n c) := by rw [← hW3]; exact (Boxed.new W2 28 (.slice A n c)).alloc _
  have c1 : Boxed W3 (W2.heap.size + 1) 3 (.int .i64 b) := by have := Boxed.new (W2.alloc (.cells #[.slice A n c] 28)) 3 (.int .i64 b); rw [World.size_alloc] at this; rw [← hW3]; exact this
  have cb : Boxed W3 w.heap.size 3 (.int .i64 b) := (hb3.block _ (by omega)).trans (by rw [← hW2]; exact (Boxed.new w 3 (.int .i64 b)).alloc _)
  have cs : Boxed W3 (w.heap.size + 1) 4 (.bool false) := (hb3.block _ (by omega)).trans (by
    rw [← hW2]
    have := Boxed.new (w.alloc (.cells #[.int .i64 b] 3)) 4 (.bool false)
    rw [World.size_alloc] at this
    exact this)
  have hB := hb2.trans (hb3.mono (by omega))
  have e1 : Boxed W3 g1 28 (.slice A n c) := (hB.block _ k1.out.lt).trans k1.out
  have e2 : Boxed W3 g2 23 (.slice A' n' c') := (hB.block _ k2.out.lt).trans k2.out
  have e3 : Boxed W3 g3 31 (.slice V m d) := (hB.block _ k3.out.lt).trans k3.out
  have hA := hh.out.below hB
  have hI0 := Lib.hid (show FiInv w.heap.size w g1 g2 g3 w.heap.size (w.heap.size + 1) A n c A' n' c' V m d b false (fun _ => False) W3 from
    ⟨e1, e2, e3, cb, cs, ⟨k1.out.lt, k2.out.lt, k3.out.lt, Nat.le_refl _, by omega, by omega⟩, ⟨fun h => h, fun h => h⟩, fun _ h => h.elim, fun _ h => h.elim, hB⟩)
  have hs23 := Lib.hid (And.intro hs2 hs3)
  have hA' := Lib.hid hA; have c0' := Lib.hid c0; have c1' := Lib.hid c1
  clear hW2 hW3 hb2 hb3 hs2 hs3 hA hB c0 c1 cb cs e1 e2 e3 d1
  gi_wp2
  have hs2 := hs23.out.1
  have hs3 := hs23.out.2
  have hI1 : FiInv w.heap.size w g1 g2 g3 w.heap.size (w.heap.size + 1) A n c A' n' c' V m d b false (fun k => k = W2.heap.size ∨ k = W2.heap.size + 1) W3 := by
    refine ⟨hI0.out.r1, hI0.out.r2, hI0.out.r3, hI0.out.r4, hI0.out.r5, hI0.out.lo, ⟨?_, ?_⟩, ?_, ?_, hI0.out.below⟩
    · rintro (h | h) <;> omega
    · rintro (h | h) <;> omega
    · rintro k (h | h) <;> omega
    · rintro k (h | h) <;> omega
  refine rangeO (n₀ := w.heap.size) rfl (enters_of Try.func160 (by kernel_rfl) rfl) (kids_seq A n c ts b W2.heap.size (W2.heap.size + 1) w.heap.size W3 hA'.out hn (by omega) c0'.out c1'.out) (fun k hk => by rcases hk with h | h <;> omega) (by omega) (Below.refl _ _) (fun _ => rfl)
    (fun pre Pr W => FiInv w.heap.size w g1 g2 g3 w.heap.size (w.heap.size + 1) A n c A' n' c' V m d b false Pr W ∧ ∀ y ∈ pre, grB ss vs b (y : Int) = false)
    (fun cd pre Pr W => cd = .ret ∧ (∃ y ∈ pre, grB ss vs b (y : Int) = true) ∧ FiInv w.heap.size w g1 g2 g3 w.heap.size (w.heap.size + 1) A n c A' n' c' V m d b true Pr W)
    (fun _ _ _ _ _ _ hs hg hr hp => ⟨hs.1.step (Nat.le_refl _) hg hr hp, hs.2⟩) (fun _ _ _ _ _ _ _ ⟨hs0, hs1, hs2⟩ hg hr hp => ⟨hs0, hs1, hs2.step (Nat.le_refl _) hg hr hp⟩)
    ⟨hI1, fun _ h => by cases h⟩ ?a1 ?assign ?body ?done ?stop
  case assign =>
    intro l x W K hK
    gi_wp2
    exact hK
  case body =>
    clear hs2 hs3 hI1
    rintro l pre k Pr W hpre ⟨hI, hnone⟩ hP
    have d1 := hI.r1.cell
    have d2 := hI.r2.cell
    have d3 := hI.r3.cell
    have d4 := hI.r4.cell
    have hI' := Lib.hid hI; have hn' := Lib.hid hnone
    have hcl := Lib.hid (isLinked_any A' n' c' ss V m d vs b (k : Int) W ts hok'.out ((hh'.out.below hI.below).more hI.below.size) ((hvv.out.below hI.below).more hI.below.size))
    clear hI hnone hpre
    cases g : grB ss vs b (k : Int)
    · rw [g] at hcl
      have g' := Lib.hid g
      clear g
      gi_wp2
      refine ⟨trivial, rfl, (CallsIn.inRound l (callsIn_wide.2 hcl.out)).mono ?_⟩
      rintro e W4 ⟨rfl, b4⟩
      have u4 := Lib.hid b4
      have hI4 := Lib.hid (hI'.out.up (Nat.le_refl _) b4)
      clear b4 hcl
      gi_wp2
      refine ⟨Kept.below u4.out, u4.out.mono hI'.out.below.size, hI4.out, fun y hy => ?_⟩
      rw [List.mem_append, List.mem_singleton] at hy
      rcases hy with hy | hy
      · exact hn'.out y hy
      · rw [hy]; exact g'.out
    · rw [g] at hcl
      have g' := Lib.hid g
      clear g
      gi_wp2
      refine ⟨trivial, rfl, (CallsIn.inRound l (callsIn_wide.2 hcl.out)).mono ?_⟩
      rintro e W4 ⟨rfl, b4⟩
      have u4 := Lib.hid b4
      have hI4 := Lib.hid (hI'.out.up (Nat.le_refl _) b4)
      have hput := Lib.hid (hI4.out.put true)
      have f5 := hI4.out.r5.frozen
      have e5 := hI4.out.r5.cell
      clear b4 hcl
      gi_wp2
      obtain ⟨q1, q2, q3⟩ := hput.out
      exact ⟨(Kept.below u4.out).trans q2, (u4.out.mono hI'.out.below.size).trans q3, rfl, ⟨k, by simp, g'.out⟩, q1⟩
  case done =>
    clear hs2 hs3 hI1
    rintro D Pr W hD hPD hP ⟨hI, hnone⟩ hK
    have hr := Lib.hid (finl_kids hl.out hnone)
    have hput := Lib.hid (hI.put false)
    have f5 := hI.r5.frozen
    have e5 := hI.r5.cell
    have hne := Lib.hid (show D ≠ w.heap.size + 1 from fun e => hI.np.2 (e ▸ hPD))
    have hK' := Lib.hid hK
    clear hI hnone hK
    gi_wp2
    obtain ⟨q1, q2, q3⟩ := hput.out
    have hK2 := (q2.same D (Array.getElem?_eq_some_iff.1 hK'.out).1 hPD).trans hK'.out
    refine ⟨by simp, .inl ⟨_, _, rfl, run_takeDeferred hK2, ?_⟩⟩
    have hI2 := q1.step (Pr' := Pr) (Nat.le_refl _) (grownBy_putObj' _ D (.deferred none)) (fun r e => by cases e; exact hPD) (fun k hk => .inl hk)
    rw [hr.out]
    exact ⟨_, results_cell_bool rfl _ _ (w.heap.size + 1) (.bool false) rfl hI2.r5.cell rfl, rfl, hI2.below⟩
  case stop =>
    clear hs2 hs3 hI1
    rintro D cd pre Pr W hD hPD hP hpre ⟨rfl, ⟨y, hy, hgr⟩, hI⟩ hK
    have hr := Lib.hid (finl_kid (ss := ss) (vs := vs) hl.out (hpre.subset hy) hgr)
    have hI' := Lib.hid hI
    have hK' := Lib.hid hK
    clear hI hK hpre hgr
    gi_wp2
    refine ⟨by simp, .inl ⟨_, _, rfl, run_takeDeferred hK'.out, ?_⟩⟩
    have hI2 := hI'.out.step (Pr' := Pr) (Nat.le_refl _) (grownBy_putObj' _ D (.deferred none)) (fun r e => by cases e; exact hPD) (fun k hk => .inl hk)
    rw [hr.out]
    exact ⟨_, results_cell_bool rfl _ _ (w.heap.size + 1) (.bool true) rfl hI2.r5.cell rfl, rfl, hI2.below⟩
end Go.Proofs.Ythiegfbdmmpabaa
