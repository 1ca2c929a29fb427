/- What is proved here: loops over an iterator that collect numbers. No conditions. -/
import Derived.Test.YthiegfbdmmpababTourIter
import Derived.Test.YthiegfbdmmpababOwn
import Derived.Maps.AppendAt
import Derived.Test.YthiegfbdmmpababWays
namespace Go.Proofs.Ythiegfbdmmpabab
open Go.RowKit Go.Shelf

attribute [local go_sem] Oper.semAt_some

/-- An append in a fenced walk, with where the result lies. -/
theorem appendIn {F : Fence} {n : Nat} {P : Program} (w : World) {ops : Array Oper} {rest : List Oper} {o : Oper} {a : Act} {Q : Exit → Act → World → Prop} (hg : o.guard = none) (s x : Operand) (t : TypeId)
    (hop : o.op = Op.call { callee := Callee.builtin Builtin.append, args := #[s, x], argTypes := #[t, t] }) (base : Nat) (i : TypeInfo)
    (h1 : P.underlying t = some (.slice 3)) (h2 : P.info? 3 = some i) (h3 : i.zero = some (.int .i64 0)) (h4 : i.size = 1) (h5 : i.bytes = 8)
    (v : Value) (ys : List Int) (hs : a.eval s = v) (hown : w.ownsRow base 3 1 v ys.length (ys.map (Value.int .i64))) (ab ao : Nat) (c : Nat) (y : Int) (hx : a.eval x = .slice (some ⟨ab, ao, none⟩) 1 c) (hc : w.cell? ⟨ab, ao, none⟩ = some (.int .i64 y))
    (b1 : ys.length ≤ 1048576) (b3 : base ≤ w.heap.size)
    (hK : ∀ g c' w', w'.ownsRow base 3 1 (.slice (some ⟨g, 0, none⟩) (ys.length + 1) c') (ys ++ [y]).length ((ys ++ [y]).map (Value.int .i64)) → w.grownBy w' v.ownBlock → (v.ownBlock = some g ∨ g = w.heap.size) → wpListIn F n P ops Q rest (a.put o.dst (.slice (some ⟨g, 0, none⟩) (ys.length + 1) c')) w') :
    wpListIn F n P ops Q (o :: rest) a w := by
  refine wpListIn_plain hg fun K hK' => ?_
  obtain ⟨v', w', hrun, r1, r2, _, r4⟩ := run_append_own_at (P := P) w base t o.type 3 i (.int .i64 0) 1 8 h1 h2 h3 h4 h5 rfl (by decide) v ys.length _ hown ⟨ab, ao, none⟩ 1 c [.int .i64 y] rfl
    (fun j u hu => by
      cases j with
      | zero => simp at hu; subst hu; rw [Addr.add_lit]; exact hc
      | succ j => simp at hu)
    (by simp [Value.oneCell']) (by simp only [maxLen]; omega) (by omega) b3
  obtain ⟨g, c', rfl⟩ := ownsRow_succ r1
  unfold Oper.wpIn
  refine ⟨?_, ?_⟩
  · simp [Oper.about, hop, resolve, Target.leads, Sem.run_pure]
  · rw [Oper.semAt_plain F _ _ (by rw [hop]; intro c hc'; cases hc')]
    simp [execOp, hop, resolve, invoke, builtin, hs, hx, hrun, Result.andThen]
    refine hK' _ _ (hK g c' w' (by simpa using r1) r2 ?_)
    rcases r4 with e | e
    · exact .inl (by rw [← e]; rfl)
    · exact .inr (by simpa [Value.ownBlock] using e)

/-- The box Bo holds a slice of the call's own that reads ys; neither is protected. -/
structure Coll (w : World) (B Bo : Nat) (ys : List Int) (Pr : Nat → Prop) (W : World) : Prop where
  val : ∃ v, Boxed W Bo 24 v ∧ W.ownsRow B 3 1 v ys.length (ys.map (Value.int .i64)) ∧ ∀ g, v.ownBlock = some g → ¬ Pr g
  box : ¬ Pr Bo
  lo : B ≤ Bo
  room : B ≤ w.heap.size
  there : ∀ k, Pr k → k < W.heap.size
  high : ∀ k, Pr k → B ≤ k
  below : Below B w W
theorem Coll.step {w : World} {B Bo : Nat} {ys : List Int} {Pr Pr' : Nat → Prop} {W W' : World} {row : Option Nat} (h : Coll w B Bo ys Pr W) (hg : W.grownBy W' row) (hr : ∀ r, row = some r → Pr r) (hp : ∀ k, Pr' k → Pr k ∨ W.heap.size ≤ k ∧ k < W'.heap.size) : Coll w B Bo ys Pr' W' := by
  obtain ⟨v, hv, ho, hn⟩ := h.val
  have hs := h.below.size
  have hlt := hv.lt
  refine ⟨⟨v, hv.kept hg (fun e => h.box (hr _ e.symm)), ho.kept hg ?_, fun g e hg' => ?_⟩, fun hb => ?_, h.lo, h.room, fun k hk => ?_, fun k hk => ?_, h.below.grown hg (Nat.le_trans h.room hs) (fun k e => h.high k (hr k e))⟩
  · cases hv' : v.ownBlock with
    | none => exact .inl rfl
    | some g => exact .inr (fun e => hn g hv' (hr g e.symm))
  · have := (ho.lt g e).2
    rcases hp g hg' with h1 | h1
    · exact hn g e h1
    · omega
  · rcases hp Bo hb with h1 | h1
    · exact h.box h1
    · omega
  · rcases hp k hk with h1 | h1
    · exact Nat.lt_of_lt_of_le (h.there k h1) hg.size
    · exact h1.2
  · rcases hp k hk with h1 | h1
    · exact h.high k h1
    · have := h.room; omega
theorem Coll.bides {α : Type} (w : World) (B Bo : Nat) (f : List α → List Int) : Bides (fun pre Pr W => Coll w B Bo (f pre) Pr W) := fun _ _ _ _ _ _ hs hg hr hp => hs.step hg hr hp
theorem Coll.push {w : World} {B Bo : Nat} {ys : List Int} {y : Int} {Pr : Nat → Prop} {W w1 : World} {tmp : Obj} {v : Value} {g c' : Nat} (h : Coll w B Bo ys Pr W) (hti : (24 : TypeId) ≠ 3) (hv : Boxed W Bo 24 v)
    (ho : W.ownsRow B 3 1 v ys.length (ys.map (Value.int .i64))) (hn : ∀ g, v.ownBlock = some g → ¬ Pr g)
    (ho' : w1.ownsRow B 3 1 (.slice (some ⟨g, 0, none⟩) (ys.length + 1) c') (ys ++ [y]).length ((ys ++ [y]).map (Value.int .i64))) (hgr : (W.alloc tmp).grownBy w1 v.ownBlock) (hat : v.ownBlock = some g ∨ g = (W.alloc tmp).heap.size) :
    Boxed w1 Bo 24 v ∧ Coll w B Bo (ys ++ [y]) Pr (w1.setCell ⟨Bo, 0, none⟩ (.slice (some ⟨g, 0, none⟩) (ys.length + 1) c')) ∧ Kept Pr W (w1.setCell ⟨Bo, 0, none⟩ (.slice (some ⟨g, 0, none⟩) (ys.length + 1) c')) ∧ Below B W (w1.setCell ⟨Bo, 0, none⟩ (.slice (some ⟨g, 0, none⟩) (ys.length + 1) c')) := by
  obtain ⟨h1, h2, h3, _, h5⟩ := hv.appended hti ho (Nat.le_trans h.room h.below.size) h.lo ho' hgr
  have hz : (W.alloc tmp).heap.size = W.heap.size + 1 := by simp
  have hsz := hgr.size
  have hk : Kept Pr W (w1.setCell ⟨Bo, 0, none⟩ (.slice (some ⟨g, 0, none⟩) (ys.length + 1) c')) :=
    (Kept.step (World.grownBy_alloc W tmp none) (fun _ e => by cases e)).trans ((Kept.step hgr (fun r e _ hp => hn r e hp)).trans (Kept.step (grownBy_setCell' w1 Bo _) (fun r e _ hp => by cases e; exact h.box hp)))
  refine ⟨h1, ⟨⟨_, h2, h3, fun g' e hp => ?_⟩, h.box, h.lo, h.room, fun k hk' => Nat.lt_of_lt_of_le (h.there k hk') hk.size, h.high, h.below.trans h5⟩, hk, h5⟩
  have e' : g = g' := by simpa [Value.ownBlock] using e
  subst e'
  rcases hat with ha | ha
  · exact hn g ha hp
  · have := h.there g hp; omega

theorem Coll.leave {w : World} {B Bo : Nat} {ys : List Int} {Pr : Nat → Prop} {W : World} {v : Value} {D : Nat} (h : Coll w B Bo ys Pr W) (ho : W.ownsRow B 3 1 v ys.length (ys.map (Value.int .i64))) (hn : ∀ g, v.ownBlock = some g → ¬ Pr g) (hD : Pr D) :
    ∃ A c, v = .slice A ys.length c ∧ OwnAt (W.putObj D (.deferred none)) B A ys.length ys ∧ Below B w (W.putObj D (.deferred none)) := by
  have hg := grownBy_putObj' W D (.deferred none)
  have o8 := ho.kept hg (by
    cases hv : v.ownBlock with
    | none => exact .inl rfl
    | some g => exact .inr (fun e => by injection e with e; subst e; exact hn g hv hD))
  obtain ⟨A, c, e, h'⟩ := OwnAt.of_owns o8
  exact ⟨A, c, e, h', h.below.grown hg (Nat.le_trans h.room h.below.size) (fun k e => by cases e; exact h.high _ hD)⟩

/-- The first visits of a tour. -/
def orderL (xs : List (Nat × Bool)) : List Int := (xs.filter fun x => x.2).map fun x => (x.1 : Int)
theorem orderL_yes (pre : List (Nat × Bool)) (k : Nat) : orderL (pre ++ [(k, true)]) = orderL pre ++ [(k : Int)] := by simp [orderL]
theorem orderL_no (pre : List (Nat × Bool)) (k : Nat) : orderL (pre ++ [(k, false)]) = orderL pre := by simp [orderL]
theorem orderL_len (xs : List (Nat × Bool)) : (orderL xs).length ≤ xs.length := by unfold orderL; rw [List.length_map]; exact List.length_filter_le _ _

end Go.Proofs.Ythiegfbdmmpabab

/- What is proved here: what the program's OrderOf, TourOf and ChildrenOf return. No conditions. -/
namespace Go.Proofs.Ythiegfbdmmpabab
open Go.RowKit Go.Shelf

attribute [local go_sem] Oper.semAt_some

def ordR (ts : List Blk) : List Int := if goodT ts then orderL (tour ts 0) else []
def tourL (xs : List (Nat × Bool)) : List Int := xs.map fun x => (x.1 : Int)
theorem tourL_snoc (pre : List (Nat × Bool)) (x : Nat × Bool) : tourL (pre ++ [x]) = tourL pre ++ [(x.1 : Int)] := by simp [tourL]
theorem tourL_len (xs : List (Nat × Bool)) : (tourL xs).length = xs.length := by simp [tourL]
def tourR (ts : List Blk) : List Int := if goodT ts then tourL (tour ts 0) else []
def kidsZ (xs : List Nat) : List Int := xs.map fun (x : Nat) => (x : Int)
theorem kidsZ_snoc (pre : List Nat) (x : Nat) : kidsZ (pre ++ [x]) = kidsZ pre ++ [(x : Int)] := by simp [kidsZ]
def kidsR (ts : List Blk) (b : Int) : List Int := if okK ts b then kidsZ (kids ts b.toNat) else []

set_option maxRecDepth 100000 in
set_option maxHeartbeats 1000000 in
theorem appendKids_any (A : Option Addr) (n c : Nat) (ts : List Blk) (b Bt Bb n₀ : Nat) (w : World) (h : BlksAt w n₀ A n ts) (hn : n ≤ 1000) (hn0 : n₀ ≤ Bt) (hn1 : n₀ ≤ Bb) (hbt : Boxed w Bt 23 (.slice A n c)) (hbb : Boxed w Bb 3 (.int .i64 b)) :
    Calls Try.prog 126 #[.slice none 0 0, .func (.func 127) #[] #[.pointer (some ⟨Bt, 0, none⟩), .pointer (some ⟨Bb, 0, none⟩)]] w
      fun e w' => ∃ A' n' c', e = .returned (.slice A' n' c') ∧ OwnAt w' n₀ A' n' (kidsZ (kidsL ts b n)) ∧ Below n₀ w w' := by
  obtain ⟨i0, hi, hz0, hz1, hz2⟩ := info_parts info3
  have hh := Lib.hid h; have hbt' := Lib.hid hbt; have hbb' := Lib.hid hbb
  have hlt1 := hbt.lt; have hlt2 := hbb.lt
  have hkl : (kidsL ts b n).length ≤ n := by unfold kidsL; exact Nat.le_trans (List.length_filter_le _ _) (by simp)
  have hkl' := Lib.hid hkl
  clear h hbt hbb hkl
  refine (callsIn_wide (n := 0)).1 ?_
  refine callsIn_of_wp_marks Try.func126 rfl trivial ?_ rfl
  simp only [Try.ntmps126, List.size_toArray, List.length_cons, List.length_nil, Nat.reduceAdd, Nat.reduceSub, Array.replicate_succ, Array.replicate_zero, List.push_toArray, List.append_toArray, List.nil_append, List.cons_append]
  gi_wp2
  obtain ⟨W2, hW2⟩ : ∃ W2, w.alloc (.cells #[.slice none 0 0] 24) = W2 := ⟨_, rfl⟩
  rw [hW2]
  have hs2 : W2.heap.size = w.heap.size + 1 := by rw [← hW2]; simp
  have hb2 : Below w.heap.size w W2 := by rw [← hW2]; exact (Below.refl _ w).alloc (Nat.le_refl _) _
  have co : Boxed W2 w.heap.size 24 (.slice none 0 0) := by rw [← hW2]; exact Boxed.new w 24 (.slice none 0 0)
  have hA := hh.out.below (hb2.mono (by omega))
  refine rangeO (n₀ := n₀) rfl (enters_of Try.func127 (by kernel_rfl) rfl) (kids_seq A n c ts b Bt Bb n₀ W2 hA (by omega) (by omega) ((hb2.block _ hlt1).trans hbt'.out) ((hb2.block _ hlt2).trans hbb'.out)) (fun k hk => by rcases hk with hk | hk <;> omega) (by omega) (Below.refl _ _) (fun _ => rfl)
    (fun pre Pr W => Coll w n₀ w.heap.size (kidsZ pre) Pr W) (fun _ _ _ _ => False) (Coll.bides w n₀ w.heap.size kidsZ) (fun _ _ _ _ _ _ _ hs _ _ _ => hs)
    ⟨⟨_, co, World.ownsRow_nil _ _ _ _, fun g e => by cases e⟩, fun h => by rcases h with h | h <;> omega, by omega, by omega, fun k hk => by rcases hk with hk | hk <;> omega, fun k hk => by rcases hk with hk | hk <;> omega, hb2.mono (by omega)⟩ ?a1 ?assign ?body ?done ?stop
  case assign =>
    intro l x W K hK
    gi_wp2
    exact hK
  case body =>
    clear hs2 hb2 co hA hW2
    rintro l pre k Pr W hpre hC hP
    have hpl := hpre.length_le
    have hl1 := hkl'.out
    rw [List.length_append] at hpl
    have hpl' : (kidsZ pre).length ≤ 1048576 := by unfold kidsZ; rw [List.length_map]; omega
    obtain ⟨v, hv, ho, hnp⟩ := hC.val
    have hc := hv.cell
    have hC' := Lib.hid hC; have hv' := Lib.hid hv; have ho' := Lib.hid ho; have hnp' := Lib.hid hnp
    have hbs := hC.below.size
    clear hC hv ho hnp hpre hl1 hpl
    gi_wp2_with (gi_at_builtin; refine appendIn _ rfl _ _ 24 rfl n₀ i0 Try.underlying24 hi hz0 hz1 hz2 v (kidsZ pre) rfl (ho'.out.alloc _) W.heap.size 0 1 k rfl (Boxed.new W 3 (.int .i64 k)).cell hpl' (by rw [World.size_alloc]; omega) ?_; intro g c' w1 h1 h2 h3; obtain ⟨q1, q2, q3, q4⟩ := hC'.out.push (by decide) hv'.out ho'.out hnp'.out h1 h2 h3; have q2' := Lib.hid q2; have q3' := Lib.hid q3; have q4' := Lib.hid q4; clear h1 h2 h3 q2 q3 q4; have hc1 := q1.cell; have hf1 := q1.frozen)
    refine ⟨q3'.out, q4'.out, ?_⟩
    show Coll w n₀ w.heap.size (kidsZ (pre ++ [k])) Pr _
    rw [kidsZ_snoc]; exact q2'.out
  case done =>
    clear hs2 hb2 co hA hW2
    rintro D Pr W hD hPD hP hC hK
    obtain ⟨v, hv, ho, hnp⟩ := hC.val
    have hc := hv.cell
    have hC' := Lib.hid hC; have ho' := Lib.hid ho; have hnp' := Lib.hid hnp; have hK' := Lib.hid hK
    clear hC hv ho hnp hK
    gi_wp2
    refine ⟨by simp, .inl ⟨_, _, rfl, run_takeDeferred hK'.out, ?_⟩⟩
    obtain ⟨A', c', e, hown, hbel⟩ := hC'.out.leave ho'.out hnp'.out hPD
    exact ⟨_, results_tmp rfl _ _ _, A', _, c', by rw [e]; rfl, hown, hbel⟩
  case stop =>
    rintro D cd pre Pr W _ _ _ _ h _
    exact h.elim

set_option maxRecDepth 100000 in
theorem collectKids_any (A : Option Addr) (n c : Nat) (ts : List Blk) (b Bt Bb n₀ : Nat) (w : World) (h : BlksAt w n₀ A n ts) (hn : n ≤ 1000) (hn0 : n₀ ≤ Bt) (hn1 : n₀ ≤ Bb) (hbt : Boxed w Bt 23 (.slice A n c)) (hbb : Boxed w Bb 3 (.int .i64 b)) :
    Calls Try.prog 81 #[.func (.func 127) #[] #[.pointer (some ⟨Bt, 0, none⟩), .pointer (some ⟨Bb, 0, none⟩)]] w
      fun e w' => ∃ A' n' c', e = .returned (.slice A' n' c') ∧ OwnAt w' n₀ A' n' (kidsZ (kidsL ts b n)) ∧ Below n₀ w w' := by
  have call := Lib.hid (appendKids_any A n c ts b Bt Bb n₀ w h hn hn0 hn1 hbt hbb)
  clear h hbt hbb
  go_enter Try.func81, Try.ntmps81
  go_wp2_with fail
  refine call.out.mono ?_
  rintro e w3 ⟨A', n', c', rfl, o3, b3⟩
  have o3' := Lib.hid o3; have b3' := Lib.hid b3; clear o3 b3
  go_wp2_with fail
  go_ret
  exact ⟨A', n', c', rfl, o3'.out, b3'.out⟩

set_option maxRecDepth 100000 in
set_option maxHeartbeats 1000000 in
theorem implKids_any (A : Option Addr) (n c : Nat) (ts : List Blk) (b : Int) (w : World) (h : BlksAt w w.heap.size A n ts) (hn : n ≤ 1048576) :
    Calls Try.prog 18 #[.slice A n c, .int .i64 b] w (RetOwn w (okK ts b) (kidsR ts b)) := by
  have hh := Lib.hid h; clear h
  go_enter Try.func18, Try.ntmps18
  go_wp2_with fail
  refine (isBlock_ok _ _ _ ts b _ hh.out hn).mono ?_
  rintro e w1 ⟨rfl, b1⟩
  have u1 := Lib.hid b1; clear b1
  cases hg : okK ts b
  · have hr := Lib.hid (show kidsR ts b = [] by unfold kidsR; rw [hg]; rfl)
    go_wp2_with fail
    go_ret2
    exact ⟨none, 0, 0, by rw [hg]; rfl, by rw [hr.out]; exact own_nil _ _, u1.out⟩
  · obtain ⟨ht, k, rfl, hk⟩ := okK_iff.1 hg
    have hr := Lib.hid (show kidsR ts k = kidsZ (kids ts k) by unfold kidsR; rw [hg, Int.toNat_natCast]; rfl)
    have hf := ht.few
    have hln := hh.out.1
    have hkn := Lib.hid (show kids ts k = kidsL ts k n by unfold kids; rw [hln])
    have hn24 : n ≤ 24 := by omega
    have k1 := Lib.hid (hh.out.up u1.out)
    clear hf hln
    go_wp2_with fail
    refine (childrenIn_any A n c k w1).mono ?_
    rintro e w2 ⟨rfl, hw2⟩
    have c0 : Boxed w2 w1.heap.size 23 (.slice A n c) := by rw [← hw2]; exact (Boxed.new w1 23 (.slice A n c)).alloc _
    have c1 : Boxed w2 (w1.heap.size + 1) 3 (.int .i64 k) := by have := Boxed.new (w1.alloc (.cells #[.slice A n c] 23)) 3 (.int .i64 k); rw [World.size_alloc] at this; rw [← hw2]; exact this
    have b2 : Below w1.heap.size w1 w2 := by rw [← hw2]; exact ((Below.refl _ w1).alloc (Nat.le_refl _) _).alloc (by simp) _
    have c0' := Lib.hid c0; have c1' := Lib.hid c1; have b2' := Lib.hid b2
    clear hw2 c0 c1 b2
    go_wp2_with fail
    refine (collectKids_any A n c ts k w1.heap.size (w1.heap.size + 1) w1.heap.size w2 (k1.out.below b2'.out) (by omega) (Nat.le_refl _) (by omega) c0'.out c1'.out).mono ?_
    rintro e w3 ⟨A', n', c', rfl, o3, b3⟩
    have u3 := Lib.hid (u1.out.trans ((b2'.out.trans b3).mono u1.out.size)); have o3' := Lib.hid (o3.fewer u1.out.size)
    clear o3 b3
    go_wp2_with fail
    go_ret2
    exact ⟨A', n', c', by rw [hg]; rfl, by rw [hr.out, hkn.out]; exact o3'.out, u3.out⟩
end Go.Proofs.Ythiegfbdmmpabab
