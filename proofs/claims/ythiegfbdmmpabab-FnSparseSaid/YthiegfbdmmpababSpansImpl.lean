/- What is proved here: what SpansOf of the program returns. No conditions. -/
import Derived.Test.YthiegfbdmmpababSpans
import Derived.RegionIn
namespace Go.Proofs.Ythiegfbdmmpabab
open Go.RowKit Go.Shelf

attribute [local go_sem] Oper.semAt_some

def RetSpans (w : World) (b : Bool) (rows : List (List Int)) (e : Ending) (w' : World) : Prop :=
  ∃ A n c, e = .returned (.tuple #[.slice A n c, .bool b]) ∧ rows.length = n ∧ RowsOwn w' w.heap.size A n (rowG rows) ∧ Below w.heap.size w w'
theorem spans_nil (w : World) (b : Bool) : RetSpans w b [] (.returned (.tuple #[.slice none 0 0, .bool b])) w := ⟨none, 0, 0, rfl, rfl, ⟨fun h => absurd h (Nat.lt_irrefl _)⟩, Below.refl _ _⟩

theorem grownBy_setAt (W : World) (b i : Nat) (v : Value) : W.grownBy (W.setCell ⟨b, i, none⟩ v) (some b) :=
  ⟨rfl, rfl, rfl, by simp [World.setCell], fun k _ hk => Below.heap_setCell _ _ _ k (fun e => hk (by rw [e]))⟩

/-- The rows r that a loop over an iterator fills in: the table g, its box Bs, the counter's box Br. -/
structure SpInv (w : World) (B g Bs Br n : Nat) (r : Nat → List Int) (cnt : Nat) (Pr : Nat → Prop) (W : World) : Prop where
  bs : Boxed W Bs 57 (.slice (some ⟨g, 0, none⟩) n n)
  br : Boxed W Br 3 (.int .i64 cnt)
  rows : ∃ f, W.rowIs g 24 n f ∧ ∃ (ad : Nat → Option Addr) (ca : Nat → Nat),
    (∀ i, i < n → f i = .slice (ad i) (r i).length (ca i) ∧ OwnAt W B (ad i) (r i).length (r i) ∧ ∀ x, ad i = some x → ¬ Pr x.block ∧ x.block ≠ g ∧ x.block ≠ Bs ∧ x.block ≠ Br) ∧
    ∀ i j, i < n → j < n → i ≠ j → ∀ x y, ad i = some x → ad j = some y → x.block ≠ y.block
  np : ¬ Pr g ∧ ¬ Pr Bs ∧ ¬ Pr Br
  ne : g ≠ Bs ∧ g ≠ Br ∧ Bs ≠ Br
  lo : B ≤ g ∧ B ≤ Bs ∧ B ≤ Br ∧ B ≤ w.heap.size
  there : ∀ k, Pr k → k < W.heap.size
  high : ∀ k, Pr k → B ≤ k
  below : Below B w W
theorem SpInv.step {w : World} {B g Bs Br n cnt : Nat} {r : Nat → List Int} {Pr Pr' : Nat → Prop} {W W' : World} {row : Option Nat} (h : SpInv w B g Bs Br n r cnt Pr W) (hg : W.grownBy W' row) (hr : ∀ q, row = some q → Pr q) (hp : ∀ k, Pr' k → Pr k ∨ W.heap.size ≤ k ∧ k < W'.heap.size) : SpInv w B g Bs Br n r cnt Pr' W' := by
  obtain ⟨f, hf, ad, ca, h1, h2⟩ := h.rows
  have hs := h.below.size
  have l1 := h.bs.lt
  have l2 := h.br.lt
  have l3 := hf.lt
  have np' : ∀ q, q < W.heap.size → ¬ Pr q → ¬ Pr' q := fun q hq hn hp' => by
    rcases hp q hp' with h1 | h1
    · exact hn h1
    · omega
  refine ⟨h.bs.kept hg (fun e => h.np.2.1 (hr _ e.symm)), h.br.kept hg (fun e => h.np.2.2 (hr _ e.symm)), ⟨f, hf.of_block (hg.block g l3 (fun e => h.np.1 (hr _ e.symm))), ad, ca, fun i hi => ?_, h2⟩, ⟨np' _ l3 h.np.1, np' _ l1 h.np.2.1, np' _ l2 h.np.2.2⟩, h.ne, h.lo, fun k hk => ?_, fun k hk => ?_, h.below.grown hg (Nat.le_trans h.lo.2.2.2 hs) (fun k e => h.high k (hr k e))⟩
  · obtain ⟨a1, a2, a3⟩ := h1 i hi
    refine ⟨a1, a2.keep hg.size (fun x hx => hg.block _ (a2.low x hx).2 (fun e => (a3 x hx).1 (hr _ e.symm))), fun x hx => ⟨np' _ (a2.low x hx).2 (a3 x hx).1, (a3 x hx).2⟩⟩
  · rcases hp k hk with h1 | h1
    · exact Nat.lt_of_lt_of_le (h.there k h1) hg.size
    · exact h1.2
  · rcases hp k hk with h1 | h1
    · exact h.high k h1
    · have := h.lo.2.2.2; omega
theorem SpInv.to {w : World} {B g Bs Br n cnt cnt' : Nat} {r r' : Nat → List Int} {Pr : Nat → Prop} {W : World} (h : SpInv w B g Bs Br n r cnt Pr W) (hc : cnt = cnt') (hr : ∀ i, i < n → r i = r' i) : SpInv w B g Bs Br n r' cnt' Pr W := by
  subst hc
  obtain ⟨f, hf, ad, ca, h1, h2⟩ := h.rows
  exact ⟨h.bs, h.br, ⟨f, hf, ad, ca, fun i hi => by rw [← hr i hi]; exact h1 i hi, h2⟩, h.np, h.ne, h.lo, h.there, h.high, h.below⟩
def upd (r : Nat → List Int) (k : Nat) (l : List Int) (i : Nat) : List Int := if i = k then l else r i
theorem upd_same (r : Nat → List Int) (k : Nat) (l : List Int) : upd r k l k = l := by unfold upd; rw [if_pos rfl]
theorem upd_other {r : Nat → List Int} {k i : Nat} (l : List Int) (h : i ≠ k) : upd r k l i = r i := by unfold upd; rw [if_neg h]

theorem SpInv.fresh {w : World} {B g Bs Br n cnt k : Nat} {r : Nat → List Int} {Pr : Nat → Prop} {W : World} (h : SpInv w B g Bs Br n r cnt Pr W) (hk : k < n) (hr : r k = []) :
    SpInv w B g Bs Br n (upd r k [(cnt : Int), 0]) (cnt + 1) Pr (((W.alloc (.cells #[.int .i64 cnt, .int .i64 0] 3)).setCell ⟨g, k, none⟩ (.slice (some ⟨W.heap.size, 0, none⟩) 2 2)).setCell ⟨Br, 0, none⟩ (.int .i64 ((cnt : Int) + 1))) ∧
    Kept Pr W (((W.alloc (.cells #[.int .i64 cnt, .int .i64 0] 3)).setCell ⟨g, k, none⟩ (.slice (some ⟨W.heap.size, 0, none⟩) 2 2)).setCell ⟨Br, 0, none⟩ (.int .i64 ((cnt : Int) + 1))) ∧
    Below B W (((W.alloc (.cells #[.int .i64 cnt, .int .i64 0] 3)).setCell ⟨g, k, none⟩ (.slice (some ⟨W.heap.size, 0, none⟩) 2 2)).setCell ⟨Br, 0, none⟩ (.int .i64 ((cnt : Int) + 1))) := by
  obtain ⟨f, hf, ad, ca, h1, h2⟩ := h.rows
  obtain ⟨W1, hW1⟩ : ∃ W1, W.alloc (.cells #[.int .i64 cnt, .int .i64 0] 3) = W1 := ⟨_, rfl⟩
  rw [hW1]
  have g1 : W.grownBy W1 none := by rw [← hW1]; exact World.grownBy_alloc W _ none
  have s1 : W1.heap.size = W.heap.size + 1 := by rw [← hW1]; simp
  have n1 : W1.heap[W.heap.size]? = some (.cells #[.int .i64 cnt, .int .i64 0] 3) := by rw [← hW1]; exact World.alloc_heap_new W _
  obtain ⟨W2, hW2⟩ : ∃ W2, W1.setCell ⟨g, k, none⟩ (.slice (some ⟨W.heap.size, 0, none⟩) 2 2) = W2 := ⟨_, rfl⟩
  have f1 : W1.rowIs g 24 n f := hf.of_block (g1.block g hf.lt (by simp))
  have f2 := f1.set k (.slice (some ⟨W.heap.size, 0, none⟩) 2 2)
  rw [hW2] at f2 ⊢
  have g2 : W1.grownBy W2 (some g) := by rw [← hW2]; exact grownBy_setAt _ _ _ _
  obtain ⟨W3, hW3⟩ : ∃ W3, W2.setCell ⟨Br, 0, none⟩ (.int .i64 ((cnt : Int) + 1)) = W3 := ⟨_, rfl⟩
  have b2 : Boxed W2 Br 3 (.int .i64 cnt) := (h.br.kept g1 (by simp)).kept g2 (fun e => h.ne.2.1 (by cases e; rfl))
  have b3 := b2.set (.int .i64 ((cnt : Int) + 1))
  rw [hW3] at b3 ⊢
  have g3 : W2.grownBy W3 (some Br) := by rw [← hW3]; exact grownBy_setAt _ _ _ _
  have l1 := h.bs.lt
  have l2 := h.br.lt
  have l3 := hf.lt
  have z1 := g1.size; have z2 := g2.size; have z3 := g3.size
  have hlo := h.lo
  have hB := h.below.size
  have keep : ∀ q, q < W.heap.size → q ≠ g → q ≠ Br → W3.heap[q]? = W.heap[q]? := fun q hq hne hne' =>
    (g3.block q (by omega) (fun e => hne' (by cases e; rfl))).trans ((g2.block q (by omega) (fun e => hne (by cases e; rfl))).trans (g1.block q hq (by simp)))
  have new3 : W3.heap[W.heap.size]? = some (.cells #[.int .i64 cnt, .int .i64 0] 3) :=
    (g3.block _ (by omega) (fun e => by cases e; omega)).trans ((g2.block _ (by omega) (fun e => by cases e; omega)).trans n1)
  have hkp : Kept Pr W W3 := (Kept.step g1 (fun _ e => by cases e)).trans ((Kept.step g2 (fun q e _ hp => by cases e; exact h.np.1 hp)).trans (Kept.step g3 (fun q e _ hp => by cases e; exact h.np.2.2 hp)))
  have hbl : Below B W W3 := (((Below.refl B W).grown g1 (by omega) (fun _ e => by cases e)).grown g2 (by omega) (fun q e => by cases e; exact hlo.1)).grown g3 (by omega) (fun q e => by cases e; exact hlo.2.2.1)
  refine ⟨⟨(h.bs.kept g1 (by simp)).kept g2 (fun e => h.ne.1 (by cases e; rfl)) |>.kept g3 (fun e => h.ne.2.2 (by cases e; rfl)), by rw [show ((cnt + 1 : Nat) : Int) = (cnt : Int) + 1 by omega]; exact b3,
    ⟨_, f2.of_block (g3.block g (by omega) (fun e => h.ne.2.1 (by cases e; rfl))), fun i => if i = k then some ⟨W.heap.size, 0, none⟩ else ad i, fun i => if i = k then 2 else ca i, fun i hi => ?_, fun i j hi hj hij x y hx hy => ?_⟩,
    h.np, h.ne, h.lo, fun q hq => by have := h.there q hq; omega, h.high, h.below.trans hbl⟩, hkp, hbl⟩
  · by_cases e : i = k
    · subst e
      simp only [if_true, upd_same]
      refine ⟨rfl, ⟨rfl, fun _ => ⟨W.heap.size, 2, fun j => if j = 0 then .int .i64 cnt else .int .i64 0, rfl, Nat.le_refl _, ⟨#[.int .i64 cnt, .int .i64 0], new3, rfl, fun j hj => ?_⟩, fun j hj => ?_⟩, fun x hx => by cases hx; exact ⟨by show B ≤ W.heap.size; omega, by show W.heap.size < W3.heap.size; omega⟩⟩, fun x hx => by cases hx; exact ⟨fun hp => by have := h.there _ hp; simp at this, by show W.heap.size ≠ g; omega, by show W.heap.size ≠ Bs; omega, by show W.heap.size ≠ Br; omega⟩⟩
      · have : j = 0 ∨ j = 1 := by omega
        rcases this with rfl | rfl <;> rfl
      · have : j = 0 ∨ j = 1 := by simp at hj; omega
        rcases this with rfl | rfl <;> rfl
    · obtain ⟨a1, a2, a3⟩ := h1 i hi
      simp only [e, if_false]
      rw [upd_other _ e]
      exact ⟨a1, a2.keep (by omega) (fun x hx => keep _ (a2.low x hx).2 (a3 x hx).2.1 (a3 x hx).2.2.2), a3⟩
  · by_cases e : i = k
    · have ej : j ≠ k := fun e' => hij (e.trans e'.symm)
      simp only [e, ej, if_true, if_false] at hx hy
      have l2 := ((h1 j hj).2.1.low y hy).2
      cases hx
      show W.heap.size ≠ _
      omega
    · by_cases ej : j = k
      · simp only [e, ej, if_true, if_false] at hx hy
        have l2 := ((h1 i hi).2.1.low x hx).2
        cases hy
        show _ ≠ W.heap.size
        omega
      · simp only [e, ej, if_false] at hx hy
        exact h2 i j hi hj hij x y hx hy

/-- The second number of row k is set to the counter. -/
theorem SpInv.ends {w : World} {B g Bs Br n cnt k : Nat} {a b : Int} {r : Nat → List Int} {Pr : Nat → Prop} {W : World} (h : SpInv w B g Bs Br n r cnt Pr W) (hk : k < n) (hr : r k = [a, b]) :
    ∃ q ca v, W.cell? ⟨g, k, none⟩ = some (.slice (some ⟨q, 0, none⟩) 2 ca) ∧ W.cell? ⟨q, 1, none⟩ = some v ∧ W.frozen? ⟨q, 1, none⟩ = false ∧ ∀ m, 
    SpInv w B g Bs Br n (upd r k [a, (cnt : Int)]) cnt Pr ((W.drewN m).setCell ⟨q, 1, none⟩ (.int .i64 cnt)) ∧ Kept Pr W ((W.drewN m).setCell ⟨q, 1, none⟩ (.int .i64 cnt)) ∧ Below B W ((W.drewN m).setCell ⟨q, 1, none⟩ (.int .i64 cnt)) := by
  obtain ⟨f, hf, ad, ca, h1, h2⟩ := h.rows
  obtain ⟨a1, a2, a3⟩ := h1 k hk
  have hl2 : (r k).length = 2 := by rw [hr]; rfl
  rw [hl2] at a1 a2
  obtain ⟨q, m, fr, e, hm, hrow, hfr⟩ := a2.own (by omega)
  have hc1 := hrow.cell (i := 1) (by omega)
  obtain ⟨np, n1, n2, n3⟩ := a3 _ e
  simp only at np n1 n2 n3
  refine ⟨q, ca k, _, by rw [hf.cell hk, a1, e], hc1, hrow.frozen 1, fun m' => ?_⟩
  obtain ⟨W2, hW2⟩ : ∃ W2, (W.drewN m').setCell ⟨q, 1, none⟩ (.int .i64 cnt) = W2 := ⟨_, rfl⟩
  have r2 := (rowIs_drewN hrow m').set 1 (.int .i64 cnt)
  rw [hW2] at r2 ⊢
  have g2 : W.grownBy W2 (some q) := by rw [← hW2]; have := grownBy_setAt (W.drewN m') q 1 (.int .i64 cnt); exact ⟨this.os, this.tape, this.output, this.size, this.block⟩
  have z2 := g2.size
  have hB := h.below.size
  have hlo := h.lo
  have qlo := a2.low _ e
  have hkp : Kept Pr W W2 := Kept.step g2 (fun x e' _ hp => by cases e'; exact np hp)
  have hbl : Below B W W2 := (Below.refl B W).grown g2 (by omega) (fun x e' => by cases e'; exact qlo.1)
  refine ⟨⟨h.bs.kept g2 (fun e' => n2 (by cases e'; rfl)), h.br.kept g2 (fun e' => n3 (by cases e'; rfl)), ⟨f, hf.of_block (g2.block g hf.lt (fun e' => n1 (by cases e'; rfl))), ad, ca, fun i hi => ?_, h2⟩, h.np, h.ne, h.lo, fun x hx => Nat.lt_of_lt_of_le (h.there x hx) z2, h.high, h.below.trans hbl⟩, hkp, hbl⟩
  by_cases ei : i = k
  · subst ei
    rw [upd_same]
    refine ⟨a1, ⟨rfl, fun _ => ⟨q, m, _, e, hm, r2, fun j hj => ?_⟩, fun x hx => ?_⟩, a3⟩
    · have : j = 0 ∨ j = 1 := by simp at hj; omega
      rcases this with rfl | rfl
      · have := hfr 0 (by omega)
        rw [hr] at this
        simpa using this
      · simp
    · rw [e] at hx; cases hx; exact ⟨qlo.1, Nat.lt_of_lt_of_le qlo.2 z2⟩
  · rw [upd_other _ ei]
    obtain ⟨c1, c2, c3⟩ := h1 i hi
    exact ⟨c1, c2.keep z2 (fun x hx => g2.block _ (c2.low x hx).2 (fun e' => h2 i k hi hk ei x _ hx e (by cases e'; rfl))), c3⟩

/-- The rows along a tour. -/
def spr (pre : List (Nat × Bool)) (i : Nat) : List Int := if i ∈ ordN pre then spanRow pre i else []
theorem spr_in {pre : List (Nat × Bool)} {i : Nat} (h : i ∈ ordN pre) : spr pre i = spanRow pre i := by unfold spr; rw [if_pos h]
theorem spr_out {pre : List (Nat × Bool)} {i : Nat} (h : i ∉ ordN pre) : spr pre i = [] := by unfold spr; rw [if_neg h]
theorem spr_again {pre : List (Nat × Bool)} {k : Nat} (h : k ∈ ordN pre) (i : Nat) : upd (spr pre) k [(((spF pre).1 k).1 : Int), (((spF pre).2 : Nat) : Int)] i = spr (pre ++ [(k, false)]) i := by
  by_cases e : i = k
  · subst e
    rw [upd_same, spr_in (by rw [ordN_no]; exact h)]
    unfold spanRow
    rw [spF_again, spF_cnt]
  · rw [upd_other _ e]
    unfold spr
    rw [ordN_no]
    by_cases hi : i ∈ ordN pre
    · rw [if_pos hi, if_pos hi]; unfold spanRow; rw [spF_other pre (k, false) e]
    · rw [if_neg hi, if_neg hi]
theorem spr_first (pre : List (Nat × Bool)) (k i : Nat) : upd (spr pre) k [(((spF pre).2 : Nat) : Int), (((spF pre).2 + 1 : Nat) : Int)] i = spr (pre ++ [(k, true)]) i := by
  by_cases e : i = k
  · subst e
    rw [upd_same, spr_in (by rw [ordN_yes]; simp)]
    unfold spanRow
    rw [spF_first, spF_cnt]
  · rw [upd_other _ e]
    unfold spr
    rw [ordN_yes]
    by_cases hi : i ∈ ordN pre
    · rw [if_pos hi, if_pos (by simp [hi])]; unfold spanRow; rw [spF_other pre (k, true) e]
    · rw [if_neg hi, if_neg (by simp [hi, e])]
theorem upd_upd (r : Nat → List Int) (k : Nat) (l l' : List Int) (i : Nat) : upd (upd r k l) k l' i = upd r k l' i := by unfold upd; by_cases e : i = k <;> simp [e]
theorem spF_no2 (pre : List (Nat × Bool)) (k : Nat) : (spF (pre ++ [(k, false)])).2 = (spF pre).2 := by rw [spF_snoc]; rfl
theorem spF_yes2 (pre : List (Nat × Bool)) (k : Nat) : (spF (pre ++ [(k, true)])).2 = (spF pre).2 + 1 := by rw [spF_snoc]; rfl

theorem infoInts2 : (Try.prog.info? 24).map (fun i => (i.zero, i.size, i.bytes)) = some (some (.slice none 0 0), 1, 24) := by kernel_rfl
theorem make_ints (n : Nat) (hn : n ≤ 1048576) (w : World) :
    (Instr.makeSlice 57 (.int .i64 (n : Int)) (.int .i64 (n : Int))).run Try.prog w = .ok (.slice (some ⟨w.heap.size, 0, none⟩) n n) (w.alloc (.cells (madeCells #[.slice none 0 0] n) 24)) := by
  obtain ⟨i, hi, hzz⟩ := Option.map_eq_some_iff.1 infoInts2
  simp only [Prod.mk.injEq] at hzz
  obtain ⟨hz, hs, hb⟩ := hzz
  have hr := run_make w 57 24 i _ Try.underlying57 hi hz .i64 .i64 n n (by omega) (Int.le_refl _) (by rw [hb]; omega) (by omega)
  rw [hs, Int.toNat_natCast, Nat.mul_one] at hr
  exact hr
theorem row_ints (w : World) (n : Nat) : (w.alloc (.cells (madeCells #[.slice none 0 0] n) 24)).rowIs w.heap.size 24 n (fun _ => .slice none 0 0) :=
  ⟨_, Go.Deep.blk_alloc_new _ _, size_madeCells _ _, fun i hi => by simp [madeCells, hi, Nat.mod_one]⟩

end Go.Proofs.Ythiegfbdmmpabab
