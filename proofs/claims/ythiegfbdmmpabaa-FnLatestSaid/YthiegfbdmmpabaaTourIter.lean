/- What is proved here: a law for a range over a function whose iterator keeps blocks of its own (it may range over functions itself): the blocks that the iterator has laid are protected in every round. No conditions. -/
import Derived.RangeFuncNested
import Derived.RangeFuncBound
import Derived.RangeFuncCalls
import Derived.RangeFuncLeaves
import Derived.Shelf.Abstract
import Derived.Shelf.RegionOpen
import Derived.WalkKit
import Derived.OwnWalkIn
import Derived.TacticsInMore
import Derived.LoopNIn
import Derived.LoopIn
import Derived.Test.YthiegfbdmmpabaaBlocks
import Derived.Test.YthiegfbdmmpabaaTours
namespace Go.Proofs.Ythiegfbdmmpabaa
open Go.RowKit Go.Shelf

/-- Blocks that are there and protected lie as they lay. -/
structure Kept (Pr : Nat → Prop) (W W' : World) : Prop where
  size : W.heap.size ≤ W'.heap.size
  same : ∀ k, k < W.heap.size → Pr k → W'.heap[k]? = W.heap[k]?
theorem Kept.refl (Pr : Nat → Prop) (W : World) : Kept Pr W W := ⟨Nat.le_refl _, fun _ _ _ => rfl⟩
theorem Kept.trans {Pr : Nat → Prop} {A B C : World} (h : Kept Pr A B) (k : Kept Pr B C) : Kept Pr A C :=
  ⟨Nat.le_trans h.size k.size, fun i hi hp => (k.same i (Nat.lt_of_lt_of_le hi h.size) hp).trans (h.same i hi hp)⟩
theorem Kept.less {Pr Pr' : Nat → Prop} {A B : World} (h : Kept Pr A B) (hp : ∀ k, k < A.heap.size → Pr' k → Pr k) : Kept Pr' A B := ⟨h.size, fun k hk h' => h.same k hk (hp k hk h')⟩
/-- A step that turns at most one block, which is not protected. -/
theorem Kept.step {Pr : Nat → Prop} {A B : World} {row : Option Nat} (h : A.grownBy B row) (hr : ∀ r, row = some r → r < A.heap.size → ¬ Pr r) : Kept Pr A B :=
  ⟨h.size, fun k hk hp => h.block k hk (fun e => hr k e.symm hk hp)⟩
theorem Kept.below {Pr : Nat → Prop} {A B : World} (h : Below A.heap.size A B) : Kept Pr A B := ⟨h.size, fun k hk _ => h.block k hk⟩
theorem Kept.heap {Pr : Nat → Prop} {A B : World} (h : Kept Pr A B) {k : Nat} {o : Obj} (hp : Pr k) (ho : A.heap[k]? = some o) : B.heap[k]? = some o := (h.same k (Array.getElem?_eq_some_iff.1 ho).1 hp).trans ho

/-- What an invariant of the caller's must abide: new blocks, and a turn of a protected block. -/
def Bides {β : Type} (J : β → (Nat → Prop) → World → Prop) : Prop :=
  ∀ (s : β) (Pr Pr' : Nat → Prop) (W W' : World) (row : Option Nat), J s Pr W → W.grownBy W' row → (∀ r, row = some r → Pr r) → (∀ k, Pr' k → Pr k ∨ W.heap.size ≤ k ∧ k < W'.heap.size) → J s Pr' W'
section
variable {β : Type} {J : β → (Nat → Prop) → World → Prop} {s : β} {Pr Pr' : Nat → Prop} {W : World}
theorem Bides.less (h : Bides J) (hs : J s Pr W) (hp : ∀ k, Pr' k → Pr k) : J s Pr' W :=
  h s Pr Pr' W W none hs ⟨rfl, rfl, rfl, Nat.le_refl _, fun _ _ _ => rfl⟩ (fun _ e => by cases e) (fun k hk => .inl (hp k hk))
theorem Bides.alloc (h : Bides J) (o : Obj) (hs : J s Pr W) (hp : ∀ k, Pr' k → Pr k ∨ k = W.heap.size) : J s Pr' (W.alloc o) :=
  h s Pr Pr' W _ none hs (World.grownBy_alloc W o none) (fun _ e => by cases e) (fun k hk => (hp k hk).imp id (fun e => by rw [World.size_alloc]; omega))
theorem Bides.putObj (h : Bides J) {l : Nat} (o : Obj) (hs : J s Pr W) (hl : Pr l) : J s Pr (W.putObj l o) :=
  h s Pr Pr W _ (some l) hs (grownBy_putObj' W l o) (fun r e => by cases e; exact hl) (fun _ hk => .inl hk)
end

/-- The contract of an iterator that hands out xs. -/
def SeqO {α : Type} (P : Program) (g : Nat) (lb : Array Value) (encs : α → Array Value) (n₀ : Nat) (Pr0 : Nat → Prop) (xs : List α) (w : World) : Prop :=
  ∀ (l : Nat) (J Jx : List α → (Nat → Prop) → World → Prop) (W : World), Below w.heap.size w W → Bides J → Bides Jx →
    (∀ pre x Pr W1, pre ++ [x] <+: xs → J pre Pr W1 → YieldAt Fence.wide 0 P l (encs x) W1 fun e W' =>
      (e = .returned (.bool true) ∧ J (pre ++ [x]) Pr W' ∧ Below n₀ W1 W' ∧ Kept Pr W1 W') ∨ (e = .returned (.bool false) ∧ Jx (pre ++ [x]) Pr W' ∧ Below n₀ W1 W' ∧ Kept Pr W1 W')) →
    J [] Pr0 W →
    CallsIn Fence.wide 0 P g (#[.func (.yield l) #[] #[]] ++ lb) W fun e W' => (∃ v, e = .returned v) ∧ ((∃ Pr, J xs Pr W') ∨ (∃ pre Pr, pre <+: xs ∧ Jx pre Pr W'))

/-- How the body of a round may be left. -/
def postO {α : Type} (n₀ : Nat) (I : List α → (Nat → Prop) → World → Prop) (Ix : Code → List α → (Nat → Prop) → World → Prop) (xs : List α) (Pr : Nat → Prop) (W : World) : Exit → Act → World → Prop
  | .normal, _, W' => Kept Pr W W' ∧ Below n₀ W W' ∧ I xs Pr W'
  | .ret, _, W' => Kept Pr W W' ∧ Below n₀ W W' ∧ Ix .ret xs Pr W'
  | .exit id, _, W' => Kept Pr W W' ∧ Below n₀ W W' ∧ Ix (.exit id) xs Pr W'
  | .goto _, _, _ => False
  | .panic _, _, _ => False
  | .outgrown, _, _ => False

theorem below_put {n₀ l : Nat} {W : World} {o : Obj} (hn : n₀ ≤ l) (hl : l < W.heap.size) : Below n₀ W (W.putObj l o) :=
  (Below.refl n₀ W).grown (grownBy_putObj' W l o) (by omega) (fun k e => by cases e; omega)

theorem rangeO {α : Type} {P : Program} {g : Operand} {ps : Array Tmp} {assign body : Code} {Q : Exit → Act → World → Prop} {a : Act} {w : World} {gf : Nat} {lb : Array Value}
    (hg : a.eval g = .func (.func gf) #[] lb) (eg : ∀ args w, (callFunc gf args).run P w = .ok (.enter gf args) w)
    {encs : α → Array Value} {n₀ : Nat} {Pr0 : Nat → Prop} {xs : List α} {w0 : World} (hseq : SeqO P gf lb encs n₀ Pr0 xs w0) (hP0 : ∀ k, Pr0 k → k < w.heap.size) (hn : n₀ ≤ w.heap.size) (hb0 : Below w0.heap.size w0 w) (hps : ∀ x, (encs x).size = ps.size)
    (I : List α → (Nat → Prop) → World → Prop) (Ix : Code → List α → (Nat → Prop) → World → Prop) (hI : Bides I) (hIx : ∀ c, Bides (Ix c)) (h0 : I [] Pr0 w) (a₁ : α → Act)
    (hassign : ∀ (l : Nat) (x : α) (W : World) (K : Act → World → Prop), K (a₁ x) W →
      assign.wpIn (Fence.wide.inRound l) 0 P (Exit.then K (fun _ _ _ => False)) { tmps := (ps.zip (encs x)).foldl (fun t (p, v) => t.setIfInBounds p v) a.tmps, defers := [] } W)
    (hbody : ∀ (l : Nat) (pre : List α) (x : α) (Pr : Nat → Prop) (W : World), pre ++ [x] <+: xs → I pre Pr W → (∀ k, Pr k → Pr0 k ∨ w.heap.size ≤ k) → body.wpIn (Fence.wide.inRound l) 0 P (postO n₀ I Ix (pre ++ [x]) Pr W) (a₁ x) W)
    (hdone : ∀ (D : Nat) (Pr : Nat → Prop) (W : World), w.heap.size ≤ D → Pr D → (∀ k, Pr k → Pr0 k ∨ w.heap.size ≤ k) → I xs Pr W → W.heap[D]? = some (.deferred (some [])) → Q .normal { a with defers := { target := .collected D, args := #[] } :: a.defers } W)
    (hstop : ∀ (D : Nat) (c : Code) (pre : List α) (Pr : Nat → Prop) (W : World), w.heap.size ≤ D → Pr D → (∀ k, Pr k → Pr0 k ∨ w.heap.size ≤ k) → pre <+: xs → Ix c pre Pr W → W.heap[D]? = some (.deferred (some [])) → c.wpIn Fence.wide 0 P Q { a with defers := { target := .collected D, args := #[] } :: a.defers } W) :
    (Code.rangeFunc g ps assign body).wpIn Fence.wide 0 P Q a w := by
  refine wpIn_rangeFunc ?_
  intro fn hfn
  -- the loop's record, its block, and the block of deferred calls
  obtain ⟨rec, hrec⟩ : ∃ rec : LoopState → Option Code → Loop, rec = fun st pe => { state := st, pending := pe, fn, tmps := a.tmps, params := ps, assign, body, defers := w.heap.size } := ⟨_, rfl⟩
  obtain ⟨W1, hW1⟩ : ∃ W1, (w.alloc (.deferred (some []))).alloc (.loop (rec .ready none)) = W1 := ⟨_, rfl⟩
  have hs1 : W1.heap.size = w.heap.size + 2 := by rw [← hW1]; simp
  have hL1 : W1.heap[w.heap.size + 1]? = some (.loop (rec .ready none)) := by
    have := World.alloc_heap_new (w.alloc (.deferred (some []))) (.loop (rec .ready none)); rw [World.size_alloc] at this; rw [← hW1]; exact this
  have hD1 : W1.heap[w.heap.size]? = some (.deferred (some [])) := by
    rw [← hW1]; exact (Below.heap_alloc _ _ _ (by simp)).trans (World.alloc_heap_new w _)
  have hb1 : Below w0.heap.size w0 W1 := by rw [← hW1]; exact hb0.trans ((((Below.refl _ w).alloc (Nat.le_refl _) _).alloc (by simp) _).mono hb0.size)
  have hI1 : I [] (fun k => Pr0 k ∨ k = w.heap.size ∨ k = w.heap.size + 1) W1 := by
    rw [← hW1]
    exact hI.alloc _ (hI.alloc (Pr' := fun k => Pr0 k ∨ k = w.heap.size) _ h0 (fun k hk => hk)) (fun k hk => by rw [World.size_alloc]; rcases hk with hk | hk | hk; exact .inl (.inl hk); exact .inl (.inr hk); exact .inr hk)
  refine ⟨w.heap.size + 1, [{ target := .collected w.heap.size, args := #[] }], W1, { target := .fn (.func gf) lb, args := #[.func (.yield (w.heap.size + 1)) #[] #[]] }, W1, gf,
    #[.func (.yield (w.heap.size + 1)) #[] #[]] ++ lb, W1, ?_, ?_, fun _ _ => trivial, ?_, (fun h => by cases h), ?_⟩
  · rw [← hW1, hrec]; exact run_enterLoop_outer _ _ _ _ _
  · simp only [resolve, hg]
    simp [go_sem]
  · simp [invoke, go_sem, eg]
  -- what the iterator is given: the caller's invariant, the two blocks protected beside its own
  let up : (Nat → Prop) → Nat → Prop := fun Pr k => Pr k ∨ k = w.heap.size ∨ k = w.heap.size + 1
  let here : (Nat → Prop) → Loop → World → Prop := fun Pr r W => W.heap[w.heap.size + 1]? = some (.loop r) ∧ W.heap[w.heap.size]? = some (.deferred (some [])) ∧ ∀ k, Pr k → (Pr0 k ∨ w.heap.size ≤ k) ∧ k ≠ w.heap.size ∧ k ≠ w.heap.size + 1
  have hup : ∀ {Pr : Nat → Prop} {r : Loop} {W : World}, here Pr r W → ∀ k, up Pr k → Pr0 k ∨ w.heap.size ≤ k := fun hh k hk => by
    rcases hk with hk | hk | hk
    · exact (hh.2.2 k hk).1
    · exact .inr (by omega)
    · exact .inr (by omega)
  have bide : ∀ {Pr Pr' : Nat → Prop} {W W' : World} {row : Option Nat} {r : Loop}, here Pr r W → W.grownBy W' row → (∀ q, row = some q → Pr q) → (∀ k, Pr' k → Pr k ∨ W.heap.size ≤ k ∧ k < W'.heap.size) → here Pr' r W' ∧ (∀ k, up Pr' k → up Pr k ∨ W.heap.size ≤ k ∧ k < W'.heap.size) := by
    intro Pr Pr' W W' row r hh hg' hr hp
    have hlt := (Array.getElem?_eq_some_iff.1 hh.1).1
    refine ⟨⟨(hg'.block _ hlt (fun e => by have := hh.2.2 _ (hr _ e.symm); omega)).trans hh.1, (hg'.block _ (by omega) (fun e => by have := hh.2.2 _ (hr _ e.symm); omega)).trans hh.2.1, fun k hk => ?_⟩, fun k hk => ?_⟩
    · rcases hp k hk with h1 | h1
      · exact hh.2.2 k h1
      · exact ⟨.inr (by omega), by omega, by omega⟩
    · rcases hk with hk | hk
      · rcases hp k hk with h1 | h1
        · exact .inl (.inl h1)
        · exact .inr h1
      · exact .inl (.inr hk)
  refine (hseq (w.heap.size + 1)
    (fun pre Pr W => I pre (up Pr) W ∧ here Pr (rec .ready none) W)
    (fun pre Pr W => ∃ c, Ix c pre (up Pr) W ∧ here Pr (rec .done (some c)) W)
    W1 hb1
    (fun s Pr Pr' A B row hs hg' hr hp => by
      obtain ⟨h1, h2⟩ := bide hs.2 hg' hr hp
      exact ⟨hI s _ _ A B row hs.1 hg' (fun r e => .inl (hr r e)) h2, h1⟩)
    (fun s Pr Pr' A B row hs hg' hr hp => by
      obtain ⟨c, hc, hh⟩ := hs
      obtain ⟨h1, h2⟩ := bide hh hg' hr hp
      exact ⟨c, hIx c s _ _ A B row hc hg' (fun r e => .inl (hr r e)) h2, h1⟩)
    ?_ ⟨hI1, hL1, hD1, fun k hk => ⟨.inl hk, by have := hP0 k hk; omega, by have := hP0 k hk; omega⟩⟩).mono ?_
  · -- one round
    rintro pre x Pr W hpre ⟨hi, hh⟩
    have hlt : w.heap.size + 1 < W.heap.size := (Array.getElem?_eq_some_iff.1 hh.1).1
    have hy := run_yield (P := P) (args := encs x) hh.1 (by rw [hrec]; exact hps x)
    rw [hrec] at hy
    refine ⟨fn, _, assign, body, hy, roundIn_of_wpIn hfn (hassign _ x W _ ⟨_, run_beginRound hh.1 (by rw [hrec]), ?_⟩)⟩
    obtain ⟨W2, hW2⟩ : ∃ W2, W.putObj (w.heap.size + 1) (.loop { rec .ready none with state := .busy }) = W2 := ⟨_, rfl⟩
    rw [hW2]
    have hl2 : W2.heap[w.heap.size + 1]? = some (.loop { rec .ready none with state := .busy }) := by rw [← hW2]; exact World.putObj_heap_same hlt
    have ho2 : ∀ k, k ≠ w.heap.size + 1 → W2.heap[k]? = W.heap[k]? := fun k hk => by rw [← hW2]; exact World.putObj_heap_other (fun e => hk e)
    have hz2 : W2.heap.size = W.heap.size := by rw [← hW2]; simp
    have hb2 : Below n₀ W W2 := by rw [← hW2]; exact below_put (by omega) hlt
    have hi2 : I pre (up Pr) W2 := by rw [← hW2]; exact hI.putObj _ hi (.inr (.inr rfl))
    refine wpIn_mono (hbody _ pre x (up Pr) W2 hpre hi2 (hup hh)) ?_
    -- the end of a round, whichever
    have fin : ∀ (jump : Option Code) (W3 : World), Kept (up Pr) W2 W3 → Below n₀ W2 W3 → ∃ W4, (Instr.endRound (w.heap.size + 1) jump).run P W3 = .ok (.bool jump.isNone) W4 ∧
        W4 = W3.putObj (w.heap.size + 1) (.loop (rec (if jump.isNone then .ready else .done) jump)) ∧ here Pr (rec (if jump.isNone then .ready else .done) jump) W4 ∧ Below n₀ W W4 ∧ Kept Pr W W4 := fun jump W3 hk3 hb3 => by
      have hl3 := hk3.heap (.inr (.inr rfl)) hl2
      have hd3 := hk3.heap (.inr (.inl rfl)) ((ho2 _ (by omega)).trans hh.2.1)
      have hlt3 := (Array.getElem?_eq_some_iff.1 hl3).1
      have hend := run_endRound (P := P) jump hl3
      refine ⟨_, hend, by rw [hrec], ⟨?_, (World.putObj_heap_other (by omega)).trans hd3, hh.2.2⟩, hb2.trans (hb3.trans (below_put (by omega) hlt3)), ⟨?_, fun k hk hp => ?_⟩⟩
      · rw [World.putObj_heap_same hlt3, hrec]
      · have := hk3.size; simp; omega
      · have hne : k ≠ w.heap.size + 1 := (hh.2.2 k hp).2.2
        rw [World.putObj_heap_other (fun e => hne e), hk3.same k (by omega) (.inl hp), ho2 k hne]
    rintro e a3 W3 hp
    cases e with
    | normal =>
      obtain ⟨hk3, hb3, hi3⟩ := hp
      obtain ⟨W4, hr, e4, hh4, hb4, hk4⟩ := fin none W3 hk3 hb3
      exact ⟨_, _, hr, .inl ⟨rfl, ⟨by rw [e4]; exact hI.putObj _ hi3 (.inr (.inr rfl)), hh4⟩, hb4, hk4⟩⟩
    | ret =>
      obtain ⟨hk3, hb3, hi3⟩ := hp
      obtain ⟨W4, hr, e4, hh4, hb4, hk4⟩ := fin (some .ret) W3 hk3 hb3
      exact ⟨_, _, hr, .inr ⟨rfl, ⟨.ret, by rw [e4]; exact (hIx _).putObj _ hi3 (.inr (.inr rfl)), hh4⟩, hb4, hk4⟩⟩
    | exit id =>
      obtain ⟨hk3, hb3, hi3⟩ := hp
      obtain ⟨W4, hr, e4, hh4, hb4, hk4⟩ := fin (some (.exit id)) W3 hk3 hb3
      exact ⟨_, _, hr, .inr ⟨rfl, ⟨.exit id, by rw [e4]; exact (hIx _).putObj _ hi3 (.inr (.inr rfl)), hh4⟩, hb4, hk4⟩⟩
    | goto t => exact hp.elim
    | panic ch => exact hp.elim
    | outgrown => exact hp.elim
  · -- behind the iterator
    rintro e W2 ⟨⟨v, rfl⟩, (⟨Pr, hi, hh⟩ | ⟨pre, Pr, hpre, c, hi, hh⟩)⟩
    · refine ⟨none, _, by have := run_endLoop (P := P) hh.1 (by rw [hrec]; simp); rw [hrec] at this; exact this, hdone _ (up Pr) _ (Nat.le_refl _) (.inr (.inl rfl)) (hup hh) (hI.putObj _ hi (.inr (.inr rfl))) ((World.putObj_heap_other (by omega)).trans hh.2.1)⟩
    · refine ⟨some c, _, by have := run_endLoop (P := P) hh.1 (by rw [hrec]; simp); rw [hrec] at this; exact this, hstop _ c pre (up Pr) _ (Nat.le_refl _) (.inr (.inl rfl)) (hup hh) hpre ((hIx c).putObj _ hi (.inr (.inr rfl))) ((World.putObj_heap_other (by omega)).trans hh.2.1)⟩
end Go.Proofs.Ythiegfbdmmpabaa

/- What is proved here: the contract of the iterator over a block's children. No conditions. -/
namespace Go.Proofs.Ythiegfbdmmpabaa
open Go.RowKit Go.Shelf

attribute [local go_sem] Oper.semAt_some

set_option maxRecDepth 100000 in
set_option maxHeartbeats 1000000 in
theorem kids_seq (A : Option Addr) (n c : Nat) (ts : List Blk) (b Bt Bb n₀ : Nat) (w : World) (h : BlksAt w n₀ A n ts) (hn : n ≤ 1048576) (hn0 : n₀ ≤ w.heap.size)
    (hbt : Boxed w Bt 28 (.slice A n c)) (hbb : Boxed w Bb 3 (.int .i64 b)) :
    SeqO Try.prog 160 #[.pointer (some ⟨Bt, 0, none⟩), .pointer (some ⟨Bb, 0, none⟩)] (fun x : Nat => #[Value.int .i64 x]) n₀ (fun k => k = Bt ∨ k = Bb) (kidsL ts b n) w := by
  intro l J Jx W hW hJ hJx hY h0
  have ht1 : Boxed W Bt 28 (.slice A n c) := (hW.block Bt hbt.lt).trans hbt
  have hb1 : Boxed W Bb 3 (.int .i64 b) := (hW.block Bb hbb.lt).trans hbb
  have hh := Lib.hid (h.below (hW.mono hn0))
  have htc := ht1.cell
  have hY' := Lib.hid hY
  have hn0' := Lib.hid hn0
  have hWs := Lib.hid hW.size
  clear h hbt hbb hW ht1 hY hn0
  refine callsIn_of_wp Try.func160 rfl trivial ?_ rfl
  simp only [Try.ntmps160, List.size_toArray, List.length_cons, List.length_nil, Nat.reduceAdd, Nat.reduceSub, Array.replicate_succ, Array.replicate_zero, List.push_toArray, List.append_toArray, List.nil_append, List.cons_append]
  gi_wp2
  gi_loopw [4, 5, 8] (fun _ _ i wr => ∃ (k : Nat) (Pr : Nat → Prop), k ≤ n ∧ i = .int .i64 k ∧ Hid (J (kidsL ts b k) Pr wr) ∧ Hid (Pr Bt ∧ Pr Bb) ∧ Hid (Boxed wr Bb 3 (.int .i64 b)) ∧ Hid (BlksAt wr n₀ A n ts) ∧ n₀ ≤ wr.heap.size) (fun _ _ i _ => n - (intOf i).toNat)
  case atStart => exact ⟨0, fun k => k = Bt ∨ k = Bb, Nat.zero_le _, rfl, Lib.hid h0, Lib.hid ⟨.inl rfl, .inr rfl⟩, Lib.hid hb1, hh, Nat.le_trans hn0'.out hWs.out⟩
  case round =>
    obtain ⟨k, Pr, hk, rfl, hj, hp, hbx, ha, hsz⟩ := hrel
    by_cases hlt : k < n
    · obtain ⟨bb, off, e, hbb', hcs⟩ := ha.out.at (by omega)
      have d0 := (hcs k hlt).1
      have d1 := (hcs k hlt).2
      subst e
      clear hcs
      obtain ⟨p, hpp⟩ : ∃ p, (ts[k]?.getD (0, 0)).1 = p := ⟨_, rfl⟩
      obtain ⟨q, hqq⟩ : ∃ q, (ts[k]?.getD (0, 0)).2 = q := ⟨_, rfl⟩
      rw [hpp] at d0
      rw [hqq] at d1
      have hpz := Lib.hid (show parZ ts k = p from hpp)
      clear hpp hqq
      by_cases hpb : p = b
      · subst hpb
        have dbx := (hbx.out.alloc (.cells #[.int .i64 b, .int .i64 q] 97)).cell
        have hbx2 := Lib.hid (hbx.out.alloc (.cells #[.int .i64 b, .int .i64 q] 97))
        have ha2 := Lib.hid (ha.out.below (((Below.refl n₀ wr).alloc hsz (.cells #[.int .i64 b, .int .i64 q] 97))))
        have hj2 := Lib.hid (hJ.alloc (Pr' := Pr) (.cells #[.int .i64 b, .int .i64 q] 97) hj.out (fun _ h => .inl h))
        have hpre := kids_prefix ts b (k := k + 1) (m := n) (by omega)
        have hst := Lib.hid (kids_yes hpz.out)
        rw [hst.out] at hpre
        have hpre' := Lib.hid hpre
        obtain ⟨fn, tmps, assign, body, hy, hR⟩ := hY'.out (kidsL ts b k) k Pr _ hpre hj2.out
        have hR' := Lib.hid hR
        clear hR hpre
        gi_wp2
        refine ⟨rfl, hR'.out.mono ?_⟩
        rintro e W3 (⟨rfl, hJ3, hk3, hp3⟩ | ⟨rfl, hJx3, hk3, hp3⟩)
        · have hbx3 : Boxed W3 Bb 3 (.int .i64 b) := hp3.heap hp.out.2 hbx2.out
          have hs3 := hk3.size
          have hs4 : n₀ ≤ W3.heap.size := by have := World.size_alloc wr (.cells #[.int .i64 b, .int .i64 q] 97); omega
          have ha3 := ha2.out.below hk3
          rw [← hst.out] at hJ3
          have f1 := Lib.hid hJ3; have f2 := Lib.hid hbx3; have f3 := Lib.hid ha3
          clear hJ3 hbx3 ha3 hk3 hp3 hs3
          gi_wp2
          go_roundw
          case rel => exact ⟨k + 1, Pr, by omega, by go_num, f1, hp, f2, f3, hs4⟩
          case measure => simp [intOf]; omega
        · have f1 := Lib.hid hJx3
          clear hJx3 hk3 hp3
          gi_wp2
          refine bodyPost_ret (results_none rfl _ _ _) rfl ?_
          exact ⟨⟨_, rfl⟩, .inr ⟨_, Pr, hpre'.out, f1.out⟩⟩
      · have hst := Lib.hid (kids_no (ts := ts) (b := b) (k := k) (fun e => hpb (hpz.out.symm.trans e)))
        have dbx := (hbx.out.alloc (.cells #[.int .i64 p, .int .i64 q] 97)).cell
        have hbx2 := Lib.hid (hbx.out.alloc (.cells #[.int .i64 p, .int .i64 q] 97))
        have ha2 := Lib.hid (ha.out.below (((Below.refl n₀ wr).alloc hsz (.cells #[.int .i64 p, .int .i64 q] 97))))
        have hj2 := Lib.hid (hJ.alloc (Pr' := Pr) (.cells #[.int .i64 p, .int .i64 q] 97) hj.out (fun _ h => .inl h))
        have hcb : (p == (b : Int)) = false := by simp [hpb]
        gi_wp2
        refine ⟨fun _ h => (by cases h), ?_⟩
        gi_wp2
        go_roundw
        case rel => exact ⟨k + 1, Pr, by omega, by go_num, by rw [hst.out]; exact hj2, hp, hbx2, ha2, by simp; omega⟩
        case measure => simp [intOf]; omega
    · have hkn : k = n := by omega
      have hj' := Lib.hid (show J (kidsL ts b n) Pr wr by rw [← hkn]; exact hj.out)
      clear hkn
      gi_wp2
      go_end0
      exact ⟨⟨_, rfl⟩, .inl ⟨Pr, hj'.out⟩⟩

set_option maxRecDepth 100000 in
theorem childrenIn_any (A : Option Addr) (n c : Nat) (b : Int) (w : World) :
    Calls Try.prog 99 #[.slice A n c, .int .i64 b] w fun e w' => e = .returned (.func (.func 160) #[] #[.pointer (some ⟨w.heap.size, 0, none⟩), .pointer (some ⟨w.heap.size + 1, 0, none⟩)]) ∧ (w.alloc (.cells #[.slice A n c] 28)).alloc (.cells #[.int .i64 b] 3) = w' := by
  go_enter Try.func99, Try.ntmps99
  go_wp2_with fail
  go_ret
  exact ⟨rfl, rfl⟩
end Go.Proofs.Ythiegfbdmmpabaa

/- What is proved here: the contract of the iterator over the tour of a block. No conditions. -/
namespace Go.Proofs.Ythiegfbdmmpabaa
open Go.RowKit Go.Shelf

attribute [local go_sem] Oper.semAt_some

theorem prefix_flatMap {α β : Type} {l m : List α} (f : α → List β) (h : l <+: m) : l.flatMap f <+: m.flatMap f := by
  obtain ⟨r, rfl⟩ := h
  rw [List.flatMap_append]; exact List.prefix_append _ _
theorem prefix_add {α : Type} {p l m : List α} (h : l <+: m) : p ++ l <+: p ++ m := by
  obtain ⟨r, rfl⟩ := h
  rw [← List.append_assoc]; exact List.prefix_append _ _
/-- What a tour has handed out when the children cs are done. -/
def tourPart (ts : List Blk) (b : Nat) (cs : List Nat) : List (Nat × Bool) := (b, true) :: cs.flatMap fun c => tour ts c ++ [(b, false)]
theorem tourPart_nil (ts : List Blk) (b : Nat) : tourPart ts b [] = [(b, true)] := rfl
theorem tourPart_snoc (ts : List Blk) (b : Nat) (cs : List Nat) (x : Nat) : tourPart ts b (cs ++ [x]) = tourPart ts b cs ++ tour ts x ++ [(b, false)] := by
  unfold tourPart; rw [List.flatMap_append]; simp [List.append_assoc]
theorem tourPart_all {ts : List Blk} (h : Tree ts) {b : Nat} (hb : b < ts.length) : tourPart ts b (kids ts b) = tour ts b := (tour_step h hb).symm
theorem tourPart_prefix {ts : List Blk} (h : Tree ts) {b : Nat} (hb : b < ts.length) {cs : List Nat} (hc : cs <+: kids ts b) : tourPart ts b cs <+: tour ts b := by
  rw [← tourPart_all h hb]
  unfold tourPart
  obtain ⟨r, hr⟩ := prefix_flatMap (fun c => tour ts c ++ [(b, false)]) hc
  exact ⟨r, by rw [List.cons_append, hr]⟩

section
variable {A : Option Addr} {n c : Nat} {ts : List Blk} {b l n₀ : Nat} {Pr : Nat → Prop} {W : World} {v : Value} {Pri PrO : Nat → Prop} {X Y : World}
end
def TourPost (ts : List Blk) (b n₀ : Nat) (J Jx : List (Nat × Bool) → (Nat → Prop) → World → Prop) (pre : List (Nat × Bool)) (Pr : Nat → Prop) (W : World) (e : Ending) (W' : World) : Prop :=
  (e = .returned (.bool true) ∧ J (pre ++ tour ts b) Pr W' ∧ Below n₀ W W' ∧ Kept Pr W W') ∨ (e = .returned (.bool false) ∧ ∃ q, q <+: tour ts b ∧ Jx (pre ++ q) Pr W' ∧ Below n₀ W W' ∧ Kept Pr W W')

end Go.Proofs.Ythiegfbdmmpabaa
