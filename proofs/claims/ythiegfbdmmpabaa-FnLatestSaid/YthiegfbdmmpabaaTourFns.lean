/- What is proved here: loops over an iterator that collect numbers. No conditions. -/
import Derived.Test.YthiegfbdmmpabaaTourIter
import Derived.Test.YthiegfbdmmpabaaOwn
import Derived.Maps.AppendAt
import Derived.Test.YthiegfbdmmpabaaWays
namespace Go.Proofs.Ythiegfbdmmpabaa
open Go.RowKit Go.Shelf

attribute [local go_sem] Oper.semAt_some

/-- An append in a fenced walk, with where the result lies. -/
theorem appendIn {F : Fence} {n : Nat} {P : Program} (w : World) {ops : Array Oper} {rest : List Oper} {o : Oper} {a : Act} {Q : Exit → Act → World → Prop} (hg : o.guard = none) (s x : Operand) (t : TypeId)
    (hop : o.op = Op.call { callee := Callee.builtin Builtin.append, args := #[s, x], argTypes := #[t, t] }) (base : Nat) (i : TypeInfo)
    (h1 : P.underlying t = some (.slice 3)) (h2 : P.info? 3 = some i) (h3 : i.zero = some (.int .i64 0)) (h4 : i.size = 1) (h5 : i.bytes = 8)
    (v : Value) (ys : List Int) (hs : a.eval s = v) (hown : w.ownsRow base 3 1 v ys.length (ys.map (Value.int .i64))) (ab ao : Nat) (c : Nat) (y : Int) (hx : a.eval x = .slice (some ⟨ab, ao, none⟩) 1 c) (hc : w.cell? ⟨ab, ao, none⟩ = some (.int .i64 y))
    (b1 : ys.length ≤ 1048576) (b3 : base ≤ w.heap.size)
    (hK : ∀ g c' w', w'.ownsRow base 3 1 (.slice (some ⟨g, 0, none⟩) (ys.length + 1) c') (ys ++ [y]).length ((ys ++ [y]).map (Value.int .i64)) → w.grownBy w' v.ownBlock → (v.ownBlock = some g ∨ g = w.heap.size) → wpListIn F n P ops Q rest (a.put o.dst (.slice (some ⟨g, 0, none⟩) (ys.length + 1) c')) w') :
    wpListIn F n P ops Q (o :: rest) a w := by
  refine wpListIn_plain hg fun K hK' => ?_
  obtain ⟨v', w', hrun, r1, r2, _, r4⟩ := run_append_own_at (P := P) w base t o.type 3 i (.int .i64 0) 1 8 h1 h2 h3 h4 h5 rfl (by decide) v ys.length _ hown ⟨ab, ao, none⟩ 1 c [.int .i64 y] rfl
    (fun j u hu => by
      cases j with
      | zero => simp at hu; subst hu; rw [Addr.add_lit]; exact hc
      | succ j => simp at hu)
    (by simp [Value.oneCell']) (by simp only [maxLen]; omega) (by omega) b3
  obtain ⟨g, c', rfl⟩ := ownsRow_succ r1
  unfold Oper.wpIn
  refine ⟨?_, ?_⟩
  · simp [Oper.about, hop, resolve, Target.leads, Sem.run_pure]
  · rw [Oper.semAt_plain F _ _ (by rw [hop]; intro c hc'; cases hc')]
    simp [execOp, hop, resolve, invoke, builtin, hs, hx, hrun, Result.andThen]
    refine hK' _ _ (hK g c' w' (by simpa using r1) r2 ?_)
    rcases r4 with e | e
    · exact .inl (by rw [← e]; rfl)
    · exact .inr (by simpa [Value.ownBlock] using e)

/-- The box Bo holds a slice of the call's own that reads ys; neither is protected. -/
structure Coll (w : World) (B Bo : Nat) (ys : List Int) (Pr : Nat → Prop) (W : World) : Prop where
  val : ∃ v, Boxed W Bo 23 v ∧ W.ownsRow B 3 1 v ys.length (ys.map (Value.int .i64)) ∧ ∀ g, v.ownBlock = some g → ¬ Pr g
  box : ¬ Pr Bo
  lo : B ≤ Bo
  room : B ≤ w.heap.size
  there : ∀ k, Pr k → k < W.heap.size
  high : ∀ k, Pr k → B ≤ k
  below : Below B w W
theorem Coll.step {w : World} {B Bo : Nat} {ys : List Int} {Pr Pr' : Nat → Prop} {W W' : World} {row : Option Nat} (h : Coll w B Bo ys Pr W) (hg : W.grownBy W' row) (hr : ∀ r, row = some r → Pr r) (hp : ∀ k, Pr' k → Pr k ∨ W.heap.size ≤ k ∧ k < W'.heap.size) : Coll w B Bo ys Pr' W' := by
  obtain ⟨v, hv, ho, hn⟩ := h.val
  have hs := h.below.size
  have hlt := hv.lt
  refine ⟨⟨v, hv.kept hg (fun e => h.box (hr _ e.symm)), ho.kept hg ?_, fun g e hg' => ?_⟩, fun hb => ?_, h.lo, h.room, fun k hk => ?_, fun k hk => ?_, h.below.grown hg (Nat.le_trans h.room hs) (fun k e => h.high k (hr k e))⟩
  · cases hv' : v.ownBlock with
    | none => exact .inl rfl
    | some g => exact .inr (fun e => hn g hv' (hr g e.symm))
  · have := (ho.lt g e).2
    rcases hp g hg' with h1 | h1
    · exact hn g e h1
    · omega
  · rcases hp Bo hb with h1 | h1
    · exact h.box h1
    · omega
  · rcases hp k hk with h1 | h1
    · exact Nat.lt_of_lt_of_le (h.there k h1) hg.size
    · exact h1.2
  · rcases hp k hk with h1 | h1
    · exact h.high k h1
    · have := h.room; omega
theorem Coll.bides {α : Type} (w : World) (B Bo : Nat) (f : List α → List Int) : Bides (fun pre Pr W => Coll w B Bo (f pre) Pr W) := fun _ _ _ _ _ _ hs hg hr hp => hs.step hg hr hp
theorem Coll.push {w : World} {B Bo : Nat} {ys : List Int} {y : Int} {Pr : Nat → Prop} {W w1 : World} {tmp : Obj} {v : Value} {g c' : Nat} (h : Coll w B Bo ys Pr W) (hti : (23 : TypeId) ≠ 3) (hv : Boxed W Bo 23 v)
    (ho : W.ownsRow B 3 1 v ys.length (ys.map (Value.int .i64))) (hn : ∀ g, v.ownBlock = some g → ¬ Pr g)
    (ho' : w1.ownsRow B 3 1 (.slice (some ⟨g, 0, none⟩) (ys.length + 1) c') (ys ++ [y]).length ((ys ++ [y]).map (Value.int .i64))) (hgr : (W.alloc tmp).grownBy w1 v.ownBlock) (hat : v.ownBlock = some g ∨ g = (W.alloc tmp).heap.size) :
    Boxed w1 Bo 23 v ∧ Coll w B Bo (ys ++ [y]) Pr (w1.setCell ⟨Bo, 0, none⟩ (.slice (some ⟨g, 0, none⟩) (ys.length + 1) c')) ∧ Kept Pr W (w1.setCell ⟨Bo, 0, none⟩ (.slice (some ⟨g, 0, none⟩) (ys.length + 1) c')) ∧ Below B W (w1.setCell ⟨Bo, 0, none⟩ (.slice (some ⟨g, 0, none⟩) (ys.length + 1) c')) := by
  obtain ⟨h1, h2, h3, _, h5⟩ := hv.appended hti ho (Nat.le_trans h.room h.below.size) h.lo ho' hgr
  have hz : (W.alloc tmp).heap.size = W.heap.size + 1 := by simp
  have hsz := hgr.size
  have hk : Kept Pr W (w1.setCell ⟨Bo, 0, none⟩ (.slice (some ⟨g, 0, none⟩) (ys.length + 1) c')) :=
    (Kept.step (World.grownBy_alloc W tmp none) (fun _ e => by cases e)).trans ((Kept.step hgr (fun r e _ hp => hn r e hp)).trans (Kept.step (grownBy_setCell' w1 Bo _) (fun r e _ hp => by cases e; exact h.box hp)))
  refine ⟨h1, ⟨⟨_, h2, h3, fun g' e hp => ?_⟩, h.box, h.lo, h.room, fun k hk' => Nat.lt_of_lt_of_le (h.there k hk') hk.size, h.high, h.below.trans h5⟩, hk, h5⟩
  have e' : g = g' := by simpa [Value.ownBlock] using e
  subst e'
  rcases hat with ha | ha
  · exact hn g ha hp
  · have := h.there g hp; omega

theorem Coll.leave {w : World} {B Bo : Nat} {ys : List Int} {Pr : Nat → Prop} {W : World} {v : Value} {D : Nat} (h : Coll w B Bo ys Pr W) (ho : W.ownsRow B 3 1 v ys.length (ys.map (Value.int .i64))) (hn : ∀ g, v.ownBlock = some g → ¬ Pr g) (hD : Pr D) :
    ∃ A c, v = .slice A ys.length c ∧ OwnAt (W.putObj D (.deferred none)) B A ys.length ys ∧ Below B w (W.putObj D (.deferred none)) := by
  have hg := grownBy_putObj' W D (.deferred none)
  have o8 := ho.kept hg (by
    cases hv : v.ownBlock with
    | none => exact .inl rfl
    | some g => exact .inr (fun e => by injection e with e; subst e; exact hn g hv hD))
  obtain ⟨A, c, e, h'⟩ := OwnAt.of_owns o8
  exact ⟨A, c, e, h', h.below.grown hg (Nat.le_trans h.room h.below.size) (fun k e => by cases e; exact h.high _ hD)⟩

/-- The first visits of a tour. -/
def orderL (xs : List (Nat × Bool)) : List Int := (xs.filter fun x => x.2).map fun x => (x.1 : Int)
theorem orderL_yes (pre : List (Nat × Bool)) (k : Nat) : orderL (pre ++ [(k, true)]) = orderL pre ++ [(k : Int)] := by simp [orderL]
theorem orderL_no (pre : List (Nat × Bool)) (k : Nat) : orderL (pre ++ [(k, false)]) = orderL pre := by simp [orderL]
theorem orderL_len (xs : List (Nat × Bool)) : (orderL xs).length ≤ xs.length := by unfold orderL; rw [List.length_map]; exact List.length_filter_le _ _

end Go.Proofs.Ythiegfbdmmpabaa

/- What is proved here: what the program's OrderOf, TourOf and ChildrenOf return. No conditions. -/
namespace Go.Proofs.Ythiegfbdmmpabaa
open Go.RowKit Go.Shelf

attribute [local go_sem] Oper.semAt_some

def ordR (ts : List Blk) : List Int := if goodT ts then orderL (tour ts 0) else []
def tourL (xs : List (Nat × Bool)) : List Int := xs.map fun x => (x.1 : Int)
theorem tourL_snoc (pre : List (Nat × Bool)) (x : Nat × Bool) : tourL (pre ++ [x]) = tourL pre ++ [(x.1 : Int)] := by simp [tourL]
theorem tourL_len (xs : List (Nat × Bool)) : (tourL xs).length = xs.length := by simp [tourL]
def tourR (ts : List Blk) : List Int := if goodT ts then tourL (tour ts 0) else []
def kidsZ (xs : List Nat) : List Int := xs.map fun (x : Nat) => (x : Int)
theorem kidsZ_snoc (pre : List Nat) (x : Nat) : kidsZ (pre ++ [x]) = kidsZ pre ++ [(x : Int)] := by simp [kidsZ]
def kidsR (ts : List Blk) (b : Int) : List Int := if okK ts b then kidsZ (kids ts b.toNat) else []

end Go.Proofs.Ythiegfbdmmpabaa
