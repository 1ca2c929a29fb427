/- What is proved here: what firstStep of the program returns: the index of a block's first step in the tour. No conditions. -/
import Derived.Test.YthiegfbdmmpababTourMeet
import Derived.Test.YthiegfbdmmpababRoundRegion
namespace Go.Proofs.Ythiegfbdmmpabab
open Go.RowKit Go.Shelf

attribute [local go_sem] Oper.semAt_some

/-- The two boxes of firstStep: the block that is looked for, and the steps so far. -/
structure FsInv (w : World) (B0 B1 b cnt : Nat) (Pr : Nat → Prop) (W : World) : Prop where
  b0 : Boxed W B0 3 (.int .i64 b)
  b1 : Boxed W B1 3 (.int .i64 cnt)
  np : ¬ Pr B0 ∧ ¬ Pr B1
  ne : B0 ≠ B1
  lo : w.heap.size ≤ B0 ∧ w.heap.size ≤ B1
  there : ∀ k, Pr k → k < W.heap.size
  high : ∀ k, Pr k → w.heap.size ≤ k
  below : Below w.heap.size w W
theorem FsInv.step {w : World} {B0 B1 b cnt : Nat} {Pr Pr' : Nat → Prop} {W W' : World} {row : Option Nat} (h : FsInv w B0 B1 b cnt Pr W) (hg : W.grownBy W' row) (hr : ∀ q, row = some q → Pr q) (hp : ∀ k, Pr' k → Pr k ∨ W.heap.size ≤ k ∧ k < W'.heap.size) : FsInv w B0 B1 b cnt Pr' W' := by
  have hs := h.below.size
  have l0 := h.b0.lt
  have l1 := h.b1.lt
  have np' : ∀ q, q < W.heap.size → ¬ Pr q → ¬ Pr' q := fun q hq hn hp' => by
    rcases hp q hp' with h1 | h1
    · exact hn h1
    · omega
  refine ⟨h.b0.kept hg (fun e => h.np.1 (hr _ e.symm)), h.b1.kept hg (fun e => h.np.2 (hr _ e.symm)), ⟨np' _ l0 h.np.1, np' _ l1 h.np.2⟩, h.ne, h.lo, fun k hk => ?_, fun k hk => ?_, h.below.grown hg hs (fun k e => h.high k (hr k e))⟩
  · rcases hp k hk with h1 | h1
    · exact Nat.lt_of_lt_of_le (h.there k h1) hg.size
    · exact h1.2
  · rcases hp k hk with h1 | h1
    · exact h.high k h1
    · omega
theorem FsInv.count {w : World} {B0 B1 b cnt : Nat} {Pr : Nat → Prop} {W : World} (h : FsInv w B0 B1 b cnt Pr W) :
    FsInv w B0 B1 b (cnt + 1) Pr (W.setCell ⟨B1, 0, none⟩ (.int .i64 ((cnt : Int) + 1))) ∧ Kept Pr W (W.setCell ⟨B1, 0, none⟩ (.int .i64 ((cnt : Int) + 1))) ∧ Below w.heap.size W (W.setCell ⟨B1, 0, none⟩ (.int .i64 ((cnt : Int) + 1))) := by
  have g := grownBy_setCell' W B1 (.int .i64 ((cnt : Int) + 1))
  have hb := (Below.refl w.heap.size W).grown g h.below.size (fun k e => by cases e; exact h.lo.2)
  have e : ((cnt + 1 : Nat) : Int) = (cnt : Int) + 1 := by omega
  refine ⟨⟨h.b0.kept g (fun e => h.ne (by cases e; rfl)), by rw [e]; exact h.b1.set _, h.np, h.ne, h.lo, fun k hk => Nat.lt_of_lt_of_le (h.there k hk) g.size, h.high, h.below.trans hb⟩, Kept.step g (fun r e _ hp => by cases e; exact h.np.2 hp), hb⟩
def noneIs (pre : List (Nat × Bool)) (b : Nat) : Prop := ∀ e, e ∈ pre → e.1 ≠ b
theorem first_of {ts : List Blk} {pre : List (Nat × Bool)} {b : Nat} {t : Bool} (hp : pre ++ [(b, t)] <+: tour ts 0) (hn : noneIs pre b) : FirstAt (tn ts 0) b pre.length := by
  obtain ⟨r, hr⟩ := hp
  unfold tn
  refine ⟨?_, fun j hj e => ?_⟩
  · rw [← hr, List.getElem?_map, List.append_assoc, List.getElem?_append_right (Nat.le_refl _)]; simp
  · rw [← hr, List.getElem?_map, List.append_assoc, List.getElem?_append_left hj, List.getElem?_eq_getElem hj] at e
    simp at e
    exact hn _ (List.getElem_mem hj) e

set_option maxRecDepth 100000 in
set_option maxHeartbeats 2000000 in
theorem firstStep_any (A : Option Addr) (n c : Nat) (ts : List Blk) (b : Nat) (w : World) (h : BlksAt w w.heap.size A n ts) (hn : n ≤ 1048576) (ht : Tree ts) (hb : b < ts.length) :
    Calls Try.prog 114 #[.slice A n c, .int .i64 b] w fun e w' => ∃ i : Nat, e = .returned (.int .i64 i) ∧ FirstAt (tn ts 0) b i ∧ i ≤ 46 ∧ Below w.heap.size w w' := by
  have hh := Lib.hid h; clear h
  have hbt := Lib.hid (show b ∈ tn ts 0 from (mem_tn ht ht.pos).2 ((mem_pre ht ht.pos).2 ⟨hb, dep ts b, Nat.le_refl _, anc_root ht hb⟩))
  have hlt := Lib.hid (tour_short ht ht.pos)
  refine (callsIn_wide (n := 0)).1 ?_
  refine callsIn_of_wp_marks Try.func114 rfl trivial ?_ rfl
  simp only [Try.ntmps114, List.size_toArray, List.length_cons, List.length_nil, Nat.reduceAdd, Nat.reduceSub, Array.replicate_succ, Array.replicate_zero, List.push_toArray, List.append_toArray, List.nil_append, List.cons_append]
  gi_wp2
  refine ⟨trivial, rfl, (callsIn_wide.2 (tourFrom_any A n c 0 _)).mono ?_⟩
  rintro e W3 ⟨rfl, hW3⟩
  obtain ⟨W2, hW2⟩ : ∃ W2, (w.alloc (.cells #[.int .i64 b] 3)).alloc (.cells #[.int .i64 0] 3) = W2 := ⟨_, rfl⟩
  rw [hW2] at hW3 ⊢
  have hs2 : W2.heap.size = w.heap.size + 2 := by rw [← hW2]; simp
  have hs3 : W3.heap.size = W2.heap.size + 2 := by rw [← hW3]; simp
  have hb2 : Below w.heap.size w W2 := by rw [← hW2]; exact ((Below.refl _ w).alloc (Nat.le_refl _) _).alloc (by simp) _
  have hb3 : Below W2.heap.size W2 W3 := by rw [← hW3]; exact ((Below.refl _ W2).alloc (Nat.le_refl _) _).alloc (by simp) _
  have c0 : Boxed W3 W2.heap.size 23 (.slice A n c) := by rw [← hW3]; exact (Boxed.new W2 23 (.slice A n c)).alloc _
  have c1 : Boxed W3 (W2.heap.size + 1) 3 (.int .i64 (0 : Nat)) := by have := Boxed.new (W2.alloc (.cells #[.slice A n c] 23)) 3 (.int .i64 0); rw [World.size_alloc] at this; rw [← hW3]; exact this
  have cb : Boxed W3 w.heap.size 3 (.int .i64 b) := (hb3.block _ (by omega)).trans (by rw [← hW2]; exact (Boxed.new w 3 (.int .i64 b)).alloc _)
  have cs : Boxed W3 (w.heap.size + 1) 3 (.int .i64 (0 : Nat)) := (hb3.block _ (by omega)).trans (by
    rw [← hW2]
    have := Boxed.new (w.alloc (.cells #[.int .i64 b] 3)) 3 (.int .i64 0)
    rw [World.size_alloc] at this
    exact this)
  have hB := hb2.trans (hb3.mono (by omega))
  have hA := hh.out.below hB
  have hs23 := Lib.hid (And.intro hs2 hs3)
  have hA' := Lib.hid hA; have hB' := Lib.hid hB; have c0' := Lib.hid c0; have c1' := Lib.hid c1; have cb' := Lib.hid cb; have cs' := Lib.hid cs
  clear hW2 hW3 hb2 hb3 hs2 hs3 hA hB c0 c1 cb cs
  gi_wp2
  have hs2 := hs23.out.1
  have hs3 := hs23.out.2
  refine rangeO (n₀ := w.heap.size) rfl (enters_of Try.func134 (by kernel_rfl) rfl) (tour_seq A n c ts 0 W2.heap.size (W2.heap.size + 1) w.heap.size W3 hA'.out hn ht ht.pos (by omega) c0'.out c1'.out) (fun k hk => hk.elim) (by omega) (Below.refl _ _) (fun _ => rfl)
    (fun pre Pr W => FsInv w w.heap.size (w.heap.size + 1) b pre.length Pr W ∧ noneIs pre b) (fun cd pre Pr W => cd = .exit 0 ∧ ∃ p t, pre = p ++ [(b, t)] ∧ noneIs p b ∧ FsInv w w.heap.size (w.heap.size + 1) b p.length Pr W)
    (fun _ _ _ _ _ _ hs hg hr hp => ⟨hs.1.step hg hr hp, hs.2⟩) (fun _ _ _ _ _ _ _ ⟨hs0, p, t, hs1, hs2, hs3⟩ hg hr hp => ⟨hs0, p, t, hs1, hs2, hs3.step hg hr hp⟩)
    ⟨⟨cb'.out, cs'.out, ⟨fun h => h, fun h => h⟩, by omega, ⟨Nat.le_refl _, by omega⟩, fun _ h => h.elim, fun _ h => h.elim, hB'.out⟩, fun _ h => by cases h⟩ ?a1 ?assign ?body ?done ?stop
  case assign =>
    intro l x W K hK
    gi_wp2
    exact hK
  case body =>
    clear hs2 hs3
    rintro l pre ⟨k, fst⟩ Pr W hpre ⟨hI, hnone⟩ hP
    have hpl := hpre.length_le
    have hl1 := hlt.out
    rw [List.length_append] at hpl
    have hcnt : pre.length ≤ 1000 := by omega
    have d0 := hI.b0.cell
    have d1 := hI.b1.cell
    have d2 := hI.b1.frozen
    have hI' := Lib.hid hI; have hn' := Lib.hid hnone
    obtain ⟨cn, hcn⟩ : ∃ cn, Hid (pre.length = cn) := ⟨_, Lib.hid rfl⟩
    rw [hcn.out] at d1 hcnt
    clear hI hnone hpre hl1 hpl
    by_cases hkb : k = b
    · subst hkb
      have hq : ((k : Int) == (k : Int)) = true := by simp
      gi_wp2
      exact ⟨Kept.refl _ _, Below.refl _ _, rfl, pre, fst, rfl, hn'.out, hI'.out⟩
    · have hq : ((k : Int) == (b : Int)) = false := by simp; omega
      have hc2 := Lib.hid (hI'.out.count)
      rw [hcn.out] at hc2
      gi_wp2
      obtain ⟨q1, q2, q3⟩ := hc2.out
      refine ⟨q2, q3, ?_, fun e he => ?_⟩
      · rw [List.length_append, List.length_singleton, hcn.out]; exact q1
      · rw [List.mem_append] at he
        rcases he with he | he
        · exact hn'.out e he
        · simp at he; subst he; exact hkb
  case done =>
    rintro D Pr W hD hPD hP ⟨hI, hnone⟩ hK
    exfalso
    have := hbt.out
    unfold tn at this
    obtain ⟨e, he, e2⟩ := List.mem_map.1 this
    exact hnone e he e2
  case stop =>
    rintro D cd pre Pr W hD hPD hP hpre ⟨rfl, p, t, rfl, hnone, hI⟩ hK
    have hc := hI.b1.cell
    have hI' := Lib.hid hI; have hK' := Lib.hid hK; have hn' := Lib.hid hnone; have hp' := Lib.hid hpre
    clear hI hK hnone hpre
    gi_wp2
    refine ⟨by simp, .inl ⟨_, _, rfl, run_takeDeferred hK'.out, ?_⟩⟩
    have hI2 := hI'.out.step (Pr' := Pr) (grownBy_putObj' W D (.deferred none)) (fun r e => by cases e; exact hPD) (fun k hk => .inl hk)
    have hpl := hp'.out.length_le
    have hl1 := hlt.out
    rw [List.length_append, List.length_singleton] at hpl
    exact ⟨_, results_tmp rfl _ _ _, p.length, rfl, first_of hp'.out hn'.out, by omega, hI2.below⟩
end Go.Proofs.Ythiegfbdmmpabab
