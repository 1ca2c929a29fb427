/- What is proved here: a law for a range over a function whose iterator keeps blocks of its own (it may range over functions itself): the blocks that the iterator has laid are protected in every round. No conditions. -/
import Derived.RangeFuncNested
import Derived.RangeFuncBound
import Derived.RangeFuncCalls
import Derived.RangeFuncLeaves
import Derived.Shelf.Abstract
import Derived.Shelf.RegionOpen
import Derived.WalkKit
import Derived.OwnWalkIn
import Derived.TacticsInMore
import Derived.LoopNIn
import Derived.LoopIn
import Derived.Test.YthiegfbdmmpababBlocks
import Derived.Test.YthiegfbdmmpababTours
namespace Go.Proofs.Ythiegfbdmmpabab
open Go.RowKit Go.Shelf

/-- Blocks that are there and protected lie as they lay. -/
structure Kept (Pr : Nat → Prop) (W W' : World) : Prop where
  size : W.heap.size ≤ W'.heap.size
  same : ∀ k, k < W.heap.size → Pr k → W'.heap[k]? = W.heap[k]?
theorem Kept.refl (Pr : Nat → Prop) (W : World) : Kept Pr W W := ⟨Nat.le_refl _, fun _ _ _ => rfl⟩
theorem Kept.trans {Pr : Nat → Prop} {A B C : World} (h : Kept Pr A B) (k : Kept Pr B C) : Kept Pr A C :=
  ⟨Nat.le_trans h.size k.size, fun i hi hp => (k.same i (Nat.lt_of_lt_of_le hi h.size) hp).trans (h.same i hi hp)⟩
theorem Kept.less {Pr Pr' : Nat → Prop} {A B : World} (h : Kept Pr A B) (hp : ∀ k, k < A.heap.size → Pr' k → Pr k) : Kept Pr' A B := ⟨h.size, fun k hk h' => h.same k hk (hp k hk h')⟩
/-- A step that turns at most one block, which is not protected. -/
theorem Kept.step {Pr : Nat → Prop} {A B : World} {row : Option Nat} (h : A.grownBy B row) (hr : ∀ r, row = some r → r < A.heap.size → ¬ Pr r) : Kept Pr A B :=
  ⟨h.size, fun k hk hp => h.block k hk (fun e => hr k e.symm hk hp)⟩
theorem Kept.below {Pr : Nat → Prop} {A B : World} (h : Below A.heap.size A B) : Kept Pr A B := ⟨h.size, fun k hk _ => h.block k hk⟩
theorem Kept.heap {Pr : Nat → Prop} {A B : World} (h : Kept Pr A B) {k : Nat} {o : Obj} (hp : Pr k) (ho : A.heap[k]? = some o) : B.heap[k]? = some o := (h.same k (Array.getElem?_eq_some_iff.1 ho).1 hp).trans ho

/-- What an invariant of the caller's must abide: new blocks, and a turn of a protected block. -/
def Bides {β : Type} (J : β → (Nat → Prop) → World → Prop) : Prop :=
  ∀ (s : β) (Pr Pr' : Nat → Prop) (W W' : World) (row : Option Nat), J s Pr W → W.grownBy W' row → (∀ r, row = some r → Pr r) → (∀ k, Pr' k → Pr k ∨ W.heap.size ≤ k ∧ k < W'.heap.size) → J s Pr' W'
section
variable {β : Type} {J : β → (Nat → Prop) → World → Prop} {s : β} {Pr Pr' : Nat → Prop} {W : World}
theorem Bides.less (h : Bides J) (hs : J s Pr W) (hp : ∀ k, Pr' k → Pr k) : J s Pr' W :=
  h s Pr Pr' W W none hs ⟨rfl, rfl, rfl, Nat.le_refl _, fun _ _ _ => rfl⟩ (fun _ e => by cases e) (fun k hk => .inl (hp k hk))
theorem Bides.alloc (h : Bides J) (o : Obj) (hs : J s Pr W) (hp : ∀ k, Pr' k → Pr k ∨ k = W.heap.size) : J s Pr' (W.alloc o) :=
  h s Pr Pr' W _ none hs (World.grownBy_alloc W o none) (fun _ e => by cases e) (fun k hk => (hp k hk).imp id (fun e => by rw [World.size_alloc]; omega))
theorem Bides.putObj (h : Bides J) {l : Nat} (o : Obj) (hs : J s Pr W) (hl : Pr l) : J s Pr (W.putObj l o) :=
  h s Pr Pr W _ (some l) hs (grownBy_putObj' W l o) (fun r e => by cases e; exact hl) (fun _ hk => .inl hk)
end

/-- The contract of an iterator that hands out xs. -/
def SeqO {α : Type} (P : Program) (g : Nat) (lb : Array Value) (encs : α → Array Value) (n₀ : Nat) (Pr0 : Nat → Prop) (xs : List α) (w : World) : Prop :=
  ∀ (l : Nat) (J Jx : List α → (Nat → Prop) → World → Prop) (W : World), Below w.heap.size w W → Bides J → Bides Jx →
    (∀ pre x Pr W1, pre ++ [x] <+: xs → J pre Pr W1 → YieldAt Fence.wide 0 P l (encs x) W1 fun e W' =>
      (e = .returned (.bool true) ∧ J (pre ++ [x]) Pr W' ∧ Below n₀ W1 W' ∧ Kept Pr W1 W') ∨ (e = .returned (.bool false) ∧ Jx (pre ++ [x]) Pr W' ∧ Below n₀ W1 W' ∧ Kept Pr W1 W')) →
    J [] Pr0 W →
    CallsIn Fence.wide 0 P g (#[.func (.yield l) #[] #[]] ++ lb) W fun e W' => (∃ v, e = .returned v) ∧ ((∃ Pr, J xs Pr W') ∨ (∃ pre Pr, pre <+: xs ∧ Jx pre Pr W'))

/-- How the body of a round may be left. -/
def postO {α : Type} (n₀ : Nat) (I : List α → (Nat → Prop) → World → Prop) (Ix : Code → List α → (Nat → Prop) → World → Prop) (xs : List α) (Pr : Nat → Prop) (W : World) : Exit → Act → World → Prop
  | .normal, _, W' => Kept Pr W W' ∧ Below n₀ W W' ∧ I xs Pr W'
  | .ret, _, W' => Kept Pr W W' ∧ Below n₀ W W' ∧ Ix .ret xs Pr W'
  | .exit id, _, W' => Kept Pr W W' ∧ Below n₀ W W' ∧ Ix (.exit id) xs Pr W'
  | .goto _, _, _ => False
  | .panic _, _, _ => False
  | .outgrown, _, _ => False

theorem below_put {n₀ l : Nat} {W : World} {o : Obj} (hn : n₀ ≤ l) (hl : l < W.heap.size) : Below n₀ W (W.putObj l o) :=
  (Below.refl n₀ W).grown (grownBy_putObj' W l o) (by omega) (fun k e => by cases e; omega)

theorem rangeO {α : Type} {P : Program} {g : Operand} {ps : Array Tmp} {assign body : Code} {Q : Exit → Act → World → Prop} {a : Act} {w : World} {gf : Nat} {lb : Array Value}
    (hg : a.eval g = .func (.func gf) #[] lb) (eg : ∀ args w, (callFunc gf args).run P w = .ok (.enter gf args) w)
    {encs : α → Array Value} {n₀ : Nat} {Pr0 : Nat → Prop} {xs : List α} {w0 : World} (hseq : SeqO P gf lb encs n₀ Pr0 xs w0) (hP0 : ∀ k, Pr0 k → k < w.heap.size) (hn : n₀ ≤ w.heap.size) (hb0 : Below w0.heap.size w0 w) (hps : ∀ x, (encs x).size = ps.size)
    (I : List α → (Nat → Prop) → World → Prop) (Ix : Code → List α → (Nat → Prop) → World → Prop) (hI : Bides I) (hIx : ∀ c, Bides (Ix c)) (h0 : I [] Pr0 w) (a₁ : α → Act)
    (hassign : ∀ (l : Nat) (x : α) (W : World) (K : Act → World → Prop), K (a₁ x) W →
      assign.wpIn (Fence.wide.inRound l) 0 P (Exit.then K (fun _ _ _ => False)) { tmps := (ps.zip (encs x)).foldl (fun t (p, v) => t.setIfInBounds p v) a.tmps, defers := [] } W)
    (hbody : ∀ (l : Nat) (pre : List α) (x : α) (Pr : Nat → Prop) (W : World), pre ++ [x] <+: xs → I pre Pr W → (∀ k, Pr k → Pr0 k ∨ w.heap.size ≤ k) → body.wpIn (Fence.wide.inRound l) 0 P (postO n₀ I Ix (pre ++ [x]) Pr W) (a₁ x) W)
    (hdone : ∀ (D : Nat) (Pr : Nat → Prop) (W : World), w.heap.size ≤ D → Pr D → (∀ k, Pr k → Pr0 k ∨ w.heap.size ≤ k) → I xs Pr W → W.heap[D]? = some (.deferred (some [])) → Q .normal { a with defers := { target := .collected D, args := #[] } :: a.defers } W)
    (hstop : ∀ (D : Nat) (c : Code) (pre : List α) (Pr : Nat → Prop) (W : World), w.heap.size ≤ D → Pr D → (∀ k, Pr k → Pr0 k ∨ w.heap.size ≤ k) → pre <+: xs → Ix c pre Pr W → W.heap[D]? = some (.deferred (some [])) → c.wpIn Fence.wide 0 P Q { a with defers := { target := .collected D, args := #[] } :: a.defers } W) :
    (Code.rangeFunc g ps assign body).wpIn Fence.wide 0 P Q a w := by
  refine wpIn_rangeFunc ?_
  intro fn hfn
  -- the loop's record, its block, and the block of deferred calls
  obtain ⟨rec, hrec⟩ : ∃ rec : LoopState → Option Code → Loop, rec = fun st pe => { state := st, pending := pe, fn, tmps := a.tmps, params := ps, assign, body, defers := w.heap.size } := ⟨_, rfl⟩
  obtain ⟨W1, hW1⟩ : ∃ W1, (w.alloc (.deferred (some []))).alloc (.loop (rec .ready none)) = W1 := ⟨_, rfl⟩
  have hs1 : W1.heap.size = w.heap.size + 2 := by rw [← hW1]; simp
  have hL1 : W1.heap[w.heap.size + 1]? = some (.loop (rec .ready none)) := by
    have := World.alloc_heap_new (w.alloc (.deferred (some []))) (.loop (rec .ready none)); rw [World.size_alloc] at this; rw [← hW1]; exact this
  have hD1 : W1.heap[w.heap.size]? = some (.deferred (some [])) := by
    rw [← hW1]; exact (Below.heap_alloc _ _ _ (by simp)).trans (World.alloc_heap_new w _)
  have hb1 : Below w0.heap.size w0 W1 := by rw [← hW1]; exact hb0.trans ((((Below.refl _ w).alloc (Nat.le_refl _) _).alloc (by simp) _).mono hb0.size)
  have hI1 : I [] (fun k => Pr0 k ∨ k = w.heap.size ∨ k = w.heap.size + 1) W1 := by
    rw [← hW1]
    exact hI.alloc _ (hI.alloc (Pr' := fun k => Pr0 k ∨ k = w.heap.size) _ h0 (fun k hk => hk)) (fun k hk => by rw [World.size_alloc]; rcases hk with hk | hk | hk; exact .inl (.inl hk); exact .inl (.inr hk); exact .inr hk)
  refine ⟨w.heap.size + 1, [{ target := .collected w.heap.size, args := #[] }], W1, { target := .fn (.func gf) lb, args := #[.func (.yield (w.heap.size + 1)) #[] #[]] }, W1, gf,
    #[.func (.yield (w.heap.size + 1)) #[] #[]] ++ lb, W1, ?_, ?_, fun _ _ => trivial, ?_, (fun h => by cases h), ?_⟩
  · rw [← hW1, hrec]; exact run_enterLoop_outer _ _ _ _ _
  · simp only [resolve, hg]
    simp [go_sem]
  · simp [invoke, go_sem, eg]
  -- what the iterator is given: the caller's invariant, the two blocks protected beside its own
  let up : (Nat → Prop) → Nat → Prop := fun Pr k => Pr k ∨ k = w.heap.size ∨ k = w.heap.size + 1
  let here : (Nat → Prop) → Loop → World → Prop := fun Pr r W => W.heap[w.heap.size + 1]? = some (.loop r) ∧ W.heap[w.heap.size]? = some (.deferred (some [])) ∧ ∀ k, Pr k → (Pr0 k ∨ w.heap.size ≤ k) ∧ k ≠ w.heap.size ∧ k ≠ w.heap.size + 1
  have hup : ∀ {Pr : Nat → Prop} {r : Loop} {W : World}, here Pr r W → ∀ k, up Pr k → Pr0 k ∨ w.heap.size ≤ k := fun hh k hk => by
    rcases hk with hk | hk | hk
    · exact (hh.2.2 k hk).1
    · exact .inr (by omega)
    · exact .inr (by omega)
  have bide : ∀ {Pr Pr' : Nat → Prop} {W W' : World} {row : Option Nat} {r : Loop}, here Pr r W → W.grownBy W' row → (∀ q, row = some q → Pr q) → (∀ k, Pr' k → Pr k ∨ W.heap.size ≤ k ∧ k < W'.heap.size) → here Pr' r W' ∧ (∀ k, up Pr' k → up Pr k ∨ W.heap.size ≤ k ∧ k < W'.heap.size) := by
    intro Pr Pr' W W' row r hh hg' hr hp
    have hlt := (Array.getElem?_eq_some_iff.1 hh.1).1
    refine ⟨⟨(hg'.block _ hlt (fun e => by have := hh.2.2 _ (hr _ e.symm); omega)).trans hh.1, (hg'.block _ (by omega) (fun e => by have := hh.2.2 _ (hr _ e.symm); omega)).trans hh.2.1, fun k hk => ?_⟩, fun k hk => ?_⟩
    · rcases hp k hk with h1 | h1
      · exact hh.2.2 k h1
      · exact ⟨.inr (by omega), by omega, by omega⟩
    · rcases hk with hk | hk
      · rcases hp k hk with h1 | h1
        · exact .inl (.inl h1)
        · exact .inr h1
      · exact .inl (.inr hk)
  refine (hseq (w.heap.size + 1)
    (fun pre Pr W => I pre (up Pr) W ∧ here Pr (rec .ready none) W)
    (fun pre Pr W => ∃ c, Ix c pre (up Pr) W ∧ here Pr (rec .done (some c)) W)
    W1 hb1
    (fun s Pr Pr' A B row hs hg' hr hp => by
      obtain ⟨h1, h2⟩ := bide hs.2 hg' hr hp
      exact ⟨hI s _ _ A B row hs.1 hg' (fun r e => .inl (hr r e)) h2, h1⟩)
    (fun s Pr Pr' A B row hs hg' hr hp => by
      obtain ⟨c, hc, hh⟩ := hs
      obtain ⟨h1, h2⟩ := bide hh hg' hr hp
      exact ⟨c, hIx c s _ _ A B row hc hg' (fun r e => .inl (hr r e)) h2, h1⟩)
    ?_ ⟨hI1, hL1, hD1, fun k hk => ⟨.inl hk, by have := hP0 k hk; omega, by have := hP0 k hk; omega⟩⟩).mono ?_
  · -- one round
    rintro pre x Pr W hpre ⟨hi, hh⟩
    have hlt : w.heap.size + 1 < W.heap.size := (Array.getElem?_eq_some_iff.1 hh.1).1
    have hy := run_yield (P := P) (args := encs x) hh.1 (by rw [hrec]; exact hps x)
    rw [hrec] at hy
    refine ⟨fn, _, assign, body, hy, roundIn_of_wpIn hfn (hassign _ x W _ ⟨_, run_beginRound hh.1 (by rw [hrec]), ?_⟩)⟩
    obtain ⟨W2, hW2⟩ : ∃ W2, W.putObj (w.heap.size + 1) (.loop { rec .ready none with state := .busy }) = W2 := ⟨_, rfl⟩
    rw [hW2]
    have hl2 : W2.heap[w.heap.size + 1]? = some (.loop { rec .ready none with state := .busy }) := by rw [← hW2]; exact World.putObj_heap_same hlt
    have ho2 : ∀ k, k ≠ w.heap.size + 1 → W2.heap[k]? = W.heap[k]? := fun k hk => by rw [← hW2]; exact World.putObj_heap_other (fun e => hk e)
    have hz2 : W2.heap.size = W.heap.size := by rw [← hW2]; simp
    have hb2 : Below n₀ W W2 := by rw [← hW2]; exact below_put (by omega) hlt
    have hi2 : I pre (up Pr) W2 := by rw [← hW2]; exact hI.putObj _ hi (.inr (.inr rfl))
    refine wpIn_mono (hbody _ pre x (up Pr) W2 hpre hi2 (hup hh)) ?_
    -- the end of a round, whichever
    have fin : ∀ (jump : Option Code) (W3 : World), Kept (up Pr) W2 W3 → Below n₀ W2 W3 → ∃ W4, (Instr.endRound (w.heap.size + 1) jump).run P W3 = .ok (.bool jump.isNone) W4 ∧
        W4 = W3.putObj (w.heap.size + 1) (.loop (rec (if jump.isNone then .ready else .done) jump)) ∧ here Pr (rec (if jump.isNone then .ready else .done) jump) W4 ∧ Below n₀ W W4 ∧ Kept Pr W W4 := fun jump W3 hk3 hb3 => by
      have hl3 := hk3.heap (.inr (.inr rfl)) hl2
      have hd3 := hk3.heap (.inr (.inl rfl)) ((ho2 _ (by omega)).trans hh.2.1)
      have hlt3 := (Array.getElem?_eq_some_iff.1 hl3).1
      have hend := run_endRound (P := P) jump hl3
      refine ⟨_, hend, by rw [hrec], ⟨?_, (World.putObj_heap_other (by omega)).trans hd3, hh.2.2⟩, hb2.trans (hb3.trans (below_put (by omega) hlt3)), ⟨?_, fun k hk hp => ?_⟩⟩
      · rw [World.putObj_heap_same hlt3, hrec]
      · have := hk3.size; simp; omega
      · have hne : k ≠ w.heap.size + 1 := (hh.2.2 k hp).2.2
        rw [World.putObj_heap_other (fun e => hne e), hk3.same k (by omega) (.inl hp), ho2 k hne]
    rintro e a3 W3 hp
    cases e with
    | normal =>
      obtain ⟨hk3, hb3, hi3⟩ := hp
      obtain ⟨W4, hr, e4, hh4, hb4, hk4⟩ := fin none W3 hk3 hb3
      exact ⟨_, _, hr, .inl ⟨rfl, ⟨by rw [e4]; exact hI.putObj _ hi3 (.inr (.inr rfl)), hh4⟩, hb4, hk4⟩⟩
    | ret =>
      obtain ⟨hk3, hb3, hi3⟩ := hp
      obtain ⟨W4, hr, e4, hh4, hb4, hk4⟩ := fin (some .ret) W3 hk3 hb3
      exact ⟨_, _, hr, .inr ⟨rfl, ⟨.ret, by rw [e4]; exact (hIx _).putObj _ hi3 (.inr (.inr rfl)), hh4⟩, hb4, hk4⟩⟩
    | exit id =>
      obtain ⟨hk3, hb3, hi3⟩ := hp
      obtain ⟨W4, hr, e4, hh4, hb4, hk4⟩ := fin (some (.exit id)) W3 hk3 hb3
      exact ⟨_, _, hr, .inr ⟨rfl, ⟨.exit id, by rw [e4]; exact (hIx _).putObj _ hi3 (.inr (.inr rfl)), hh4⟩, hb4, hk4⟩⟩
    | goto t => exact hp.elim
    | panic ch => exact hp.elim
    | outgrown => exact hp.elim
  · -- behind the iterator
    rintro e W2 ⟨⟨v, rfl⟩, (⟨Pr, hi, hh⟩ | ⟨pre, Pr, hpre, c, hi, hh⟩)⟩
    · refine ⟨none, _, by have := run_endLoop (P := P) hh.1 (by rw [hrec]; simp); rw [hrec] at this; exact this, hdone _ (up Pr) _ (Nat.le_refl _) (.inr (.inl rfl)) (hup hh) (hI.putObj _ hi (.inr (.inr rfl))) ((World.putObj_heap_other (by omega)).trans hh.2.1)⟩
    · refine ⟨some c, _, by have := run_endLoop (P := P) hh.1 (by rw [hrec]; simp); rw [hrec] at this; exact this, hstop _ c pre (up Pr) _ (Nat.le_refl _) (.inr (.inl rfl)) (hup hh) hpre ((hIx c).putObj _ hi (.inr (.inr rfl))) ((World.putObj_heap_other (by omega)).trans hh.2.1)⟩
end Go.Proofs.Ythiegfbdmmpabab

/- What is proved here: the contract of the iterator over a block's children. No conditions. -/
namespace Go.Proofs.Ythiegfbdmmpabab
open Go.RowKit Go.Shelf

attribute [local go_sem] Oper.semAt_some

set_option maxRecDepth 100000 in
set_option maxHeartbeats 1000000 in
theorem kids_seq (A : Option Addr) (n c : Nat) (ts : List Blk) (b Bt Bb n₀ : Nat) (w : World) (h : BlksAt w n₀ A n ts) (hn : n ≤ 1048576) (hn0 : n₀ ≤ w.heap.size)
    (hbt : Boxed w Bt 23 (.slice A n c)) (hbb : Boxed w Bb 3 (.int .i64 b)) :
    SeqO Try.prog 127 #[.pointer (some ⟨Bt, 0, none⟩), .pointer (some ⟨Bb, 0, none⟩)] (fun x : Nat => #[Value.int .i64 x]) n₀ (fun k => k = Bt ∨ k = Bb) (kidsL ts b n) w := by
  intro l J Jx W hW hJ hJx hY h0
  have ht1 : Boxed W Bt 23 (.slice A n c) := (hW.block Bt hbt.lt).trans hbt
  have hb1 : Boxed W Bb 3 (.int .i64 b) := (hW.block Bb hbb.lt).trans hbb
  have hh := Lib.hid (h.below (hW.mono hn0))
  have htc := ht1.cell
  have hY' := Lib.hid hY
  have hn0' := Lib.hid hn0
  have hWs := Lib.hid hW.size
  clear h hbt hbb hW ht1 hY hn0
  refine callsIn_of_wp Try.func127 rfl trivial ?_ rfl
  simp only [Try.ntmps127, List.size_toArray, List.length_cons, List.length_nil, Nat.reduceAdd, Nat.reduceSub, Array.replicate_succ, Array.replicate_zero, List.push_toArray, List.append_toArray, List.nil_append, List.cons_append]
  gi_wp2
  gi_loopw [4, 5, 8] (fun _ _ i wr => ∃ (k : Nat) (Pr : Nat → Prop), k ≤ n ∧ i = .int .i64 k ∧ Hid (J (kidsL ts b k) Pr wr) ∧ Hid (Pr Bt ∧ Pr Bb) ∧ Hid (Boxed wr Bb 3 (.int .i64 b)) ∧ Hid (BlksAt wr n₀ A n ts) ∧ n₀ ≤ wr.heap.size) (fun _ _ i _ => n - (intOf i).toNat)
  case atStart => exact ⟨0, fun k => k = Bt ∨ k = Bb, Nat.zero_le _, rfl, Lib.hid h0, Lib.hid ⟨.inl rfl, .inr rfl⟩, Lib.hid hb1, hh, Nat.le_trans hn0'.out hWs.out⟩
  case round =>
    obtain ⟨k, Pr, hk, rfl, hj, hp, hbx, ha, hsz⟩ := hrel
    by_cases hlt : k < n
    · obtain ⟨bb, off, e, hbb', hcs⟩ := ha.out.at (by omega)
      have d0 := (hcs k hlt).1
      have d1 := (hcs k hlt).2
      subst e
      clear hcs
      obtain ⟨p, hpp⟩ : ∃ p, (ts[k]?.getD (0, 0)).1 = p := ⟨_, rfl⟩
      obtain ⟨q, hqq⟩ : ∃ q, (ts[k]?.getD (0, 0)).2 = q := ⟨_, rfl⟩
      rw [hpp] at d0
      rw [hqq] at d1
      have hpz := Lib.hid (show parZ ts k = p from hpp)
      clear hpp hqq
      by_cases hpb : p = b
      · subst hpb
        have dbx := (hbx.out.alloc (.cells #[.int .i64 b, .int .i64 q] 37)).cell
        have hbx2 := Lib.hid (hbx.out.alloc (.cells #[.int .i64 b, .int .i64 q] 37))
        have ha2 := Lib.hid (ha.out.below (((Below.refl n₀ wr).alloc hsz (.cells #[.int .i64 b, .int .i64 q] 37))))
        have hj2 := Lib.hid (hJ.alloc (Pr' := Pr) (.cells #[.int .i64 b, .int .i64 q] 37) hj.out (fun _ h => .inl h))
        have hpre := kids_prefix ts b (k := k + 1) (m := n) (by omega)
        have hst := Lib.hid (kids_yes hpz.out)
        rw [hst.out] at hpre
        have hpre' := Lib.hid hpre
        obtain ⟨fn, tmps, assign, body, hy, hR⟩ := hY'.out (kidsL ts b k) k Pr _ hpre hj2.out
        have hR' := Lib.hid hR
        clear hR hpre
        gi_wp2
        refine ⟨rfl, hR'.out.mono ?_⟩
        rintro e W3 (⟨rfl, hJ3, hk3, hp3⟩ | ⟨rfl, hJx3, hk3, hp3⟩)
        · have hbx3 : Boxed W3 Bb 3 (.int .i64 b) := hp3.heap hp.out.2 hbx2.out
          have hs3 := hk3.size
          have hs4 : n₀ ≤ W3.heap.size := by have := World.size_alloc wr (.cells #[.int .i64 b, .int .i64 q] 37); omega
          have ha3 := ha2.out.below hk3
          rw [← hst.out] at hJ3
          have f1 := Lib.hid hJ3; have f2 := Lib.hid hbx3; have f3 := Lib.hid ha3
          clear hJ3 hbx3 ha3 hk3 hp3 hs3
          gi_wp2
          go_roundw
          case rel => exact ⟨k + 1, Pr, by omega, by go_num, f1, hp, f2, f3, hs4⟩
          case measure => simp [intOf]; omega
        · have f1 := Lib.hid hJx3
          clear hJx3 hk3 hp3
          gi_wp2
          refine bodyPost_ret (results_none rfl _ _ _) rfl ?_
          exact ⟨⟨_, rfl⟩, .inr ⟨_, Pr, hpre'.out, f1.out⟩⟩
      · have hst := Lib.hid (kids_no (ts := ts) (b := b) (k := k) (fun e => hpb (hpz.out.symm.trans e)))
        have dbx := (hbx.out.alloc (.cells #[.int .i64 p, .int .i64 q] 37)).cell
        have hbx2 := Lib.hid (hbx.out.alloc (.cells #[.int .i64 p, .int .i64 q] 37))
        have ha2 := Lib.hid (ha.out.below (((Below.refl n₀ wr).alloc hsz (.cells #[.int .i64 p, .int .i64 q] 37))))
        have hj2 := Lib.hid (hJ.alloc (Pr' := Pr) (.cells #[.int .i64 p, .int .i64 q] 37) hj.out (fun _ h => .inl h))
        have hcb : (p == (b : Int)) = false := by simp [hpb]
        gi_wp2
        refine ⟨fun _ h => (by cases h), ?_⟩
        gi_wp2
        go_roundw
        case rel => exact ⟨k + 1, Pr, by omega, by go_num, by rw [hst.out]; exact hj2, hp, hbx2, ha2, by simp; omega⟩
        case measure => simp [intOf]; omega
    · have hkn : k = n := by omega
      have hj' := Lib.hid (show J (kidsL ts b n) Pr wr by rw [← hkn]; exact hj.out)
      clear hkn
      gi_wp2
      go_end0
      exact ⟨⟨_, rfl⟩, .inl ⟨Pr, hj'.out⟩⟩

set_option maxRecDepth 100000 in
theorem childrenIn_any (A : Option Addr) (n c : Nat) (b : Int) (w : World) :
    Calls Try.prog 82 #[.slice A n c, .int .i64 b] w fun e w' => e = .returned (.func (.func 127) #[] #[.pointer (some ⟨w.heap.size, 0, none⟩), .pointer (some ⟨w.heap.size + 1, 0, none⟩)]) ∧ (w.alloc (.cells #[.slice A n c] 23)).alloc (.cells #[.int .i64 b] 3) = w' := by
  go_enter Try.func82, Try.ntmps82
  go_wp2_with fail
  go_ret
  exact ⟨rfl, rfl⟩
end Go.Proofs.Ythiegfbdmmpabab

/- What is proved here: the contract of the iterator over the tour of a block. No conditions. -/
namespace Go.Proofs.Ythiegfbdmmpabab
open Go.RowKit Go.Shelf

attribute [local go_sem] Oper.semAt_some

theorem prefix_flatMap {α β : Type} {l m : List α} (f : α → List β) (h : l <+: m) : l.flatMap f <+: m.flatMap f := by
  obtain ⟨r, rfl⟩ := h
  rw [List.flatMap_append]; exact List.prefix_append _ _
theorem prefix_add {α : Type} {p l m : List α} (h : l <+: m) : p ++ l <+: p ++ m := by
  obtain ⟨r, rfl⟩ := h
  rw [← List.append_assoc]; exact List.prefix_append _ _
/-- What a tour has handed out when the children cs are done. -/
def tourPart (ts : List Blk) (b : Nat) (cs : List Nat) : List (Nat × Bool) := (b, true) :: cs.flatMap fun c => tour ts c ++ [(b, false)]
theorem tourPart_nil (ts : List Blk) (b : Nat) : tourPart ts b [] = [(b, true)] := rfl
theorem tourPart_snoc (ts : List Blk) (b : Nat) (cs : List Nat) (x : Nat) : tourPart ts b (cs ++ [x]) = tourPart ts b cs ++ tour ts x ++ [(b, false)] := by
  unfold tourPart; rw [List.flatMap_append]; simp [List.append_assoc]
theorem tourPart_all {ts : List Blk} (h : Tree ts) {b : Nat} (hb : b < ts.length) : tourPart ts b (kids ts b) = tour ts b := (tour_step h hb).symm
theorem tourPart_prefix {ts : List Blk} (h : Tree ts) {b : Nat} (hb : b < ts.length) {cs : List Nat} (hc : cs <+: kids ts b) : tourPart ts b cs <+: tour ts b := by
  rw [← tourPart_all h hb]
  unfold tourPart
  obtain ⟨r, hr⟩ := prefix_flatMap (fun c => tour ts c ++ [(b, false)]) hc
  exact ⟨r, by rw [List.cons_append, hr]⟩

/-- What stays around the blocks of one call of tourTo: four boxes from B on; Pr is kept since W. -/
structure Round4 (A : Option Addr) (n c : Nat) (ts : List Blk) (b l n₀ : Nat) (Pr : Nat → Prop) (W : World) (v : Value) (Pri PrO : Nat → Prop) (X : World) : Prop where
  sub : ∀ k, Pri k → PrO k
  sup : ∀ k, Pr k → PrO k
  box : ∀ k, W.heap.size ≤ k → k < W.heap.size + 4 → PrO k
  apart : ∀ k, Pri k → W.heap.size + 4 ≤ k
  b0 : Boxed X W.heap.size 23 (.slice A n c)
  b1 : Boxed X (W.heap.size + 1) 3 (.int .i64 b)
  b2 : Boxed X (W.heap.size + 2) 126 (.func (.yield l) #[] #[])
  b3 : Boxed X (W.heap.size + 3) 4 v
  ts : BlksAt X n₀ A n ts
  room : n₀ ≤ W.heap.size
  below : Below n₀ W X
  kept : Kept Pr W X
section
variable {A : Option Addr} {n c : Nat} {ts : List Blk} {b l n₀ : Nat} {Pr : Nat → Prop} {W : World} {v : Value} {Pri PrO : Nat → Prop} {X Y : World}
theorem Round4.step (h : Round4 A n c ts b l n₀ Pr W v Pri PrO X) {row : Option Nat} {Pri' : Nat → Prop} (hg : X.grownBy Y row) (hr : ∀ r, row = some r → Pri r) (hp : ∀ k, Pri' k → Pri k ∨ X.heap.size ≤ k ∧ k < Y.heap.size) :
    Round4 A n c ts b l n₀ Pr W v Pri' (fun k => PrO k ∨ X.heap.size ≤ k ∧ k < Y.heap.size) Y := by
  have hs := h.b3.lt
  have hne : ∀ k, k < W.heap.size + 4 → some k ≠ row := fun k hk e => by have := h.apart k (hr k e.symm); omega
  have hb : Below n₀ X Y := (Below.refl n₀ X).grown hg (by have := h.room; omega) (fun k e => by have := h.apart k (hr k e); have := h.room; omega)
  exact ⟨fun k hk => (hp k hk).imp (h.sub k) id, fun k hk => .inl (h.sup k hk), fun k h1 h2 => .inl (h.box k h1 h2), fun k hk => (hp k hk).elim (h.apart k) (fun e => by omega),
    h.b0.kept hg (hne _ (by omega)), h.b1.kept hg (hne _ (by omega)), h.b2.kept hg (hne _ (by omega)), h.b3.kept hg (hne _ (by omega)), h.ts.below hb, h.room, h.below.trans hb,
    ⟨Nat.le_trans h.kept.size hg.size, fun k hk hq => (hg.block k (Nat.lt_of_lt_of_le hk h.kept.size) (hne k (by omega))).trans (h.kept.same k hk hq)⟩⟩
theorem Round4.go (h : Round4 A n c ts b l n₀ Pr W v Pri PrO X) (hb : Below n₀ X Y) (hk : Kept PrO X Y) : Round4 A n c ts b l n₀ Pr W v Pri PrO Y :=
  ⟨h.sub, h.sup, h.box, h.apart, hk.heap (h.box _ (by omega) (by omega)) h.b0, hk.heap (h.box _ (by omega) (by omega)) h.b1, hk.heap (h.box _ (by omega) (by omega)) h.b2, hk.heap (h.box _ (by omega) (by omega)) h.b3,
    h.ts.below hb, h.room, h.below.trans hb, h.kept.trans (hk.less fun k _ hp => h.sup k hp)⟩
theorem Round4.set (h : Round4 A n c ts b l n₀ Pr W v Pri PrO X) (u : Value) : Round4 A n c ts b l n₀ Pr W u Pri PrO (X.setCell ⟨W.heap.size + 3, 0, none⟩ u) := by
  have hg := grownBy_setCell' X (W.heap.size + 3) u
  have hb : Below n₀ X (X.setCell ⟨W.heap.size + 3, 0, none⟩ u) := (Below.refl n₀ X).setCell (p := ⟨W.heap.size + 3, 0, none⟩) (by have := h.room; show n₀ ≤ W.heap.size + 3; omega) u
  exact ⟨h.sub, h.sup, h.box, h.apart, h.b0.kept hg (fun e => by injection e with e; omega), h.b1.kept hg (fun e => by injection e with e; omega), h.b2.kept hg (fun e => by injection e with e; omega), h.b3.set u, h.ts.below hb, h.room, h.below.trans hb,
    ⟨Nat.le_trans h.kept.size hg.size, fun k hk hq => (hg.block k (Nat.lt_of_lt_of_le hk h.kept.size) (fun e => by injection e with e; omega)).trans (h.kept.same k hk hq)⟩⟩
end
def TourPost (ts : List Blk) (b n₀ : Nat) (J Jx : List (Nat × Bool) → (Nat → Prop) → World → Prop) (pre : List (Nat × Bool)) (Pr : Nat → Prop) (W : World) (e : Ending) (W' : World) : Prop :=
  (e = .returned (.bool true) ∧ J (pre ++ tour ts b) Pr W' ∧ Below n₀ W W' ∧ Kept Pr W W') ∨ (e = .returned (.bool false) ∧ ∃ q, q <+: tour ts b ∧ Jx (pre ++ q) Pr W' ∧ Below n₀ W W' ∧ Kept Pr W W')

set_option maxRecDepth 100000 in
set_option maxHeartbeats 4000000 in
theorem tourTo_in (A : Option Addr) (n c : Nat) (ts : List Blk) (hn : n ≤ 1048576) (ht : Tree ts) (l n₀ : Nat) (J Jx : List (Nat × Bool) → (Nat → Prop) → World → Prop) (hJ : Bides J) (hJx : Bides Jx) (XS : List (Nat × Bool))
    (hY : ∀ pre x Pr W1, pre ++ [x] <+: XS → J pre Pr W1 → YieldAt Fence.wide 0 Try.prog l #[.int .i64 x.1, .bool x.2] W1 fun e W' =>
      (e = .returned (.bool true) ∧ J (pre ++ [x]) Pr W' ∧ Below n₀ W1 W' ∧ Kept Pr W1 W') ∨ (e = .returned (.bool false) ∧ Jx (pre ++ [x]) Pr W' ∧ Below n₀ W1 W' ∧ Kept Pr W1 W')) :
    ∀ (f b : Nat) (pre : List (Nat × Bool)) (Pr : Nat → Prop) (W : World), ts.length - b ≤ f → b < ts.length → pre ++ tour ts b <+: XS → BlksAt W n₀ A n ts → n₀ ≤ W.heap.size → J pre Pr W →
      CallsIn Fence.wide 0 Try.prog 135 #[.slice A n c, .int .i64 b, .func (.yield l) #[] #[]] W (TourPost ts b n₀ J Jx pre Pr W) := by
  intro f
  induction f with
  | zero => intro b pre Pr W hf hb; omega
  | succ f ih =>
    intro b pre Pr W hf hb hpre hA hn0 hj
    have hlen : ts.length = n := hA.1
    obtain ⟨W1, hW1⟩ : ∃ W1, (((W.alloc (.cells #[.slice A n c] 23)).alloc (.cells #[.int .i64 b] 3)).alloc (.cells #[.func (.yield l) #[] #[]] 126)).alloc (.cells #[.bool false] 4) = W1 := ⟨_, rfl⟩
    have r0 : Round4 A n c ts b l n₀ Pr W (.bool false) (fun _ => False) (fun k => Pr k ∨ W.heap.size ≤ k ∧ k < W.heap.size + 4) W1 := by
      have e0 := Boxed.new W 23 (.slice A n c)
      have e1 := Boxed.new (W.alloc (.cells #[.slice A n c] 23)) 3 (.int .i64 b)
      have e2 := Boxed.new ((W.alloc (.cells #[.slice A n c] 23)).alloc (.cells #[.int .i64 b] 3)) 126 (.func (.yield l) #[] #[])
      have e3 := Boxed.new (((W.alloc (.cells #[.slice A n c] 23)).alloc (.cells #[.int .i64 b] 3)).alloc (.cells #[.func (.yield l) #[] #[]] 126)) 4 (.bool false)
      simp only [World.size_alloc, Nat.add_assoc, Nat.reduceAdd] at e1 e2 e3
      have hb1 : Below W.heap.size W W1 := by rw [← hW1]; exact ((((Below.refl _ W).alloc (Nat.le_refl _) _).alloc (by simp) _).alloc (by simp; omega) _).alloc (by simp; omega) _
      have hb2 := hb1.mono hn0
      exact ⟨fun k h => h.elim, fun k h => .inl h, fun k h1 h2 => .inr ⟨h1, h2⟩, fun k h => h.elim, by rw [← hW1]; exact ((e0.alloc _).alloc _).alloc _, by rw [← hW1]; exact (e1.alloc _).alloc _, by rw [← hW1]; exact e2.alloc _, by rw [← hW1]; exact e3,
        hA.below hb2, hn0, hb2, Kept.below hb1⟩
    have hj1 : J pre (fun k => Pr k ∨ W.heap.size ≤ k ∧ k < W.heap.size + 4) W1 := by
      have hb1 : Below W.heap.size W W1 := by rw [← hW1]; exact ((((Below.refl _ W).alloc (Nat.le_refl _) _).alloc (by simp) _).alloc (by simp; omega) _).alloc (by simp; omega) _
      exact hJ pre Pr _ W W1 none hj ⟨hb1.os, hb1.tape, hb1.output, hb1.size, fun k hk _ => hb1.block k hk⟩ (fun _ e => by cases e) (fun k hk => by rw [← hW1]; simpa [Nat.add_assoc] using hk)
    have hts := tour_step ht hb
    have hpre1 : pre ++ [(b, true)] <+: XS := by
      refine List.IsPrefix.trans ?_ hpre
      refine prefix_add ?_
      rw [hts]; exact ⟨_, rfl⟩
    obtain ⟨fn, tmps, assign, body, hy, hR⟩ := hY pre (b, true) _ W1 hpre1 hj1
    dsimp only at hy
    have d0 := r0.b0.cell; have d1 := r0.b1.cell; have d2 := r0.b2.cell; have d3 := r0.b3.cell; have d4 := r0.b3.frozen
    rw [← hW1] at d0 d1 d2 d3 d4 hy
    have hR' := Lib.hid hR
    have r0' := Lib.hid r0
    have hY' := Lib.hid hY
    have ih' := Lib.hid ih
    have hW1' := Lib.hid hW1
    clear hR r0 hW1 hY ih hj1 hts hpre1 hA
    refine callsIn_of_wp_marks Try.func135 rfl trivial ?_ rfl
    simp only [Try.ntmps135, List.size_toArray, List.length_cons, List.length_nil, Nat.reduceAdd, Nat.reduceSub, Array.replicate_succ, Array.replicate_zero, List.push_toArray, List.append_toArray, List.nil_append, List.cons_append]
    gi_wp2
    refine ⟨rfl, ?_⟩
    rw [hW1'.out]
    simp only [Nat.add_assoc, Nat.reduceAdd]
    clear d0 d1 d2 d3 d4 hy
    refine hR'.out.mono ?_
    rintro e W2 (⟨rfl, hJ2, hb2, hk2⟩ | ⟨rfl, hx2, hb2, hk2⟩)
    · have r2 := Lib.hid (r0'.out.go hb2 hk2)
      have hJ2' := Lib.hid hJ2
      have d0 := r2.out.b0.cell; have d1 := r2.out.b1.cell; have d2 := r2.out.b2.cell
      clear hJ2 hb2 hk2 hR' hW1' r0'
      gi_wp2
      refine ⟨trivial, rfl, (callsIn_wide.2 (childrenIn_any A n c b _)).mono ?_⟩
      rintro e W3 ⟨rfl, hW3⟩
      have hs3 : W3.heap.size = W2.heap.size + 2 := by rw [← hW3]; simp
      have hb3 : Below W2.heap.size W2 W3 := by rw [← hW3]; exact ((Below.refl _ W2).alloc (Nat.le_refl _) _).alloc (by simp) _
      have hg3 : W2.grownBy W3 none := ⟨hb3.os, hb3.tape, hb3.output, hb3.size, fun k hk _ => hb3.block k hk⟩
      have c0 : Boxed W3 W2.heap.size 23 (.slice A n c) := by rw [← hW3]; exact (Boxed.new W2 23 (.slice A n c)).alloc _
      have c1 : Boxed W3 (W2.heap.size + 1) 3 (.int .i64 b) := by have := Boxed.new (W2.alloc (.cells #[.slice A n c] 23)) 3 (.int .i64 b); rw [World.size_alloc] at this; rw [← hW3]; exact this
      have hs2 := r2.out.b3.lt
      have r3 := Lib.hid (r2.out.step (Pri' := fun k => k = W2.heap.size ∨ k = W2.heap.size + 1) hg3 (fun _ e => by cases e) (fun k hk => .inr (by omega)))
      have j3 := Lib.hid (hJ _ _ (fun k => (Pr k ∨ W.heap.size ≤ k ∧ k < W.heap.size + 4) ∨ W2.heap.size ≤ k ∧ k < W3.heap.size) W2 W3 none hJ2'.out hg3 (fun _ e => by cases e) (fun k hk => hk))
      have hk1 := Lib.hid (show kidsL ts b n = kids ts b by unfold kids; rw [hlen])
      clear hW3 hg3 hJ2' r2 d0 d1 d2 hj
      gi_wp2
      refine rangeO (n₀ := n₀) rfl (enters_of Try.func127 (by kernel_rfl) rfl) (kids_seq A n c ts b W2.heap.size (W2.heap.size + 1) n₀ W3 r3.out.ts hn (by omega) c0 c1) (fun k hk => by rcases hk with hk | hk <;> omega) (by omega) (Below.refl _ _) (fun _ => rfl)
        (fun cs Pri X => ∃ PrO v, J (pre ++ tourPart ts b cs) PrO X ∧ Round4 A n c ts b l n₀ Pr W v Pri PrO X)
        (fun cd _ Pri X => cd = .ret ∧ ∃ PrO q, q <+: tour ts b ∧ Jx (pre ++ q) PrO X ∧ Round4 A n c ts b l n₀ Pr W (.bool false) Pri PrO X)
        (fun s P P' X Y row ⟨PrO, v, hj, hr⟩ hg hrow hp => ⟨_, v, hJ _ PrO _ X Y row hj hg (fun r e => hr.sub r (hrow r e)) (fun k hk => hk), hr.step hg hrow hp⟩)
        (fun cd s P P' X Y row ⟨e, PrO, q, hq, hj, hr⟩ hg hrow hp => ⟨e, _, q, hq, hJx _ PrO _ X Y row hj hg (fun r e => hr.sub r (hrow r e)) (fun k hk => hk), hr.step hg hrow hp⟩)
        ⟨_, _, j3.out, r3.out⟩ ?a1 ?assign ?body ?done ?stop
      case assign =>
        intro l' x X K hK
        gi_wp2
        exact hK
      case body =>
        rintro l' cs x Pri X hcs ⟨PrO, v, hj, hr⟩ hP
        rw [hk1.out] at hcs
        have hxk := kids_above ht (b := b) (i := x) (hcs.subset (by simp))
        have hpp := (prefix_add (p := pre) (tourPart_prefix ht hb hcs)).trans hpre
        rw [tourPart_snoc, ← List.append_assoc, ← List.append_assoc] at hpp
        have hpx : pre ++ tourPart ts b cs ++ tour ts x <+: XS := List.IsPrefix.trans ⟨_, rfl⟩ hpp
        have hsx := hr.b3.lt
        have call := ih'.out x (pre ++ tourPart ts b cs) PrO X (by omega) hxk.2.1 hpx hr.ts (by omega) hj
        have call' := Lib.hid call
        have hr' := Lib.hid hr
        have d0 := hr.b0.cell; have d2 := hr.b2.cell
        clear call hr hj hpx
        gi_wp2
        refine ⟨trivial, rfl, (CallsIn.inRound l' call'.out).mono ?_⟩
        clear d0 d2
        rintro e Y (⟨rfl, hj2, hb2, hk2⟩ | ⟨rfl, q, hq, hx2, hb2, hk2⟩)
        · have r5 := hr'.out.go hb2 hk2
          obtain ⟨fn2, tmps2, assign2, body2, hy2, hR2⟩ := hY'.out _ (b, false) PrO Y hpp hj2
          dsimp only at hy2
          have r5' := Lib.hid r5
          have hR2' := Lib.hid hR2
          have d1 := r5.b1.cell; have d2 := r5.b2.cell
          have u5 := Lib.hid hb2; have v5 := Lib.hid hk2
          clear r5 hR2 hb2 hk2 hj2
          gi_wp2
          refine ⟨rfl, hR2'.out.mono ?_⟩
          clear d1 d2 hy2
          rintro e Z (⟨rfl, hj3, hb3', hk3⟩ | ⟨rfl, hx3, hb3', hk3⟩)
          · have r6 := Lib.hid (r5'.out.go hb3' hk3)
            have f1 := Lib.hid hj3; have f2 := Lib.hid (u5.out.trans hb3'); have f3 := Lib.hid (v5.out.trans hk3)
            clear hj3 hb3' hk3
            gi_wp2
            refine ⟨f3.out.less (fun k _ hk => r6.out.sub k hk), f2.out, PrO, v, ?_, r6.out⟩
            rw [tourPart_snoc, ← List.append_assoc, ← List.append_assoc]; exact f1.out
          · have r6 := Lib.hid (r5'.out.go hb3' hk3)
            have f1 := Lib.hid hx3; have f2 := Lib.hid (u5.out.trans hb3'); have f3 := Lib.hid (v5.out.trans hk3)
            have d3 := r6.out.b3.cell; have d4 := r6.out.b3.frozen
            clear hx3 hb3' hk3
            gi_wp2
            refine ⟨(f3.out.less (fun k _ hk => r6.out.sub k hk)).trans (Kept.step (grownBy_setCell' Z (W.heap.size + 3) _) (fun r e _ hp => by injection e with e; have := r6.out.apart _ hp; omega)), f2.out.trans ((Below.refl n₀ Z).setCell (p := ⟨W.heap.size + 3, 0, none⟩) (by show n₀ ≤ W.heap.size + 3; omega) _), rfl, PrO, tourPart ts b (cs ++ [x]), tourPart_prefix ht hb hcs, ?_, r6.out.set _⟩
            rw [tourPart_snoc, ← List.append_assoc, ← List.append_assoc]
            exact hJx _ PrO PrO Z _ (some (W.heap.size + 3)) f1.out (grownBy_setCell' Z _ _) (fun r e => by injection e with e; exact r6.out.box _ (by omega) (by omega)) (fun k hk => .inl hk)
        · have r5 := Lib.hid (hr'.out.go hb2 hk2)
          have d3 := r5.out.b3.cell; have d4 := r5.out.b3.frozen
          have f1 := Lib.hid hx2; have f2 := Lib.hid hb2; have f3 := Lib.hid hk2
          clear hx2 hb2 hk2
          gi_wp2
          refine ⟨fun _ h => (by cases h), ?_⟩
          gi_wp2
          refine ⟨(f3.out.less (fun k _ hk => r5.out.sub k hk)).trans (Kept.step (grownBy_setCell' Y (W.heap.size + 3) _) (fun r e _ hp => by injection e with e; have := r5.out.apart _ hp; omega)), f2.out.trans ((Below.refl n₀ Y).setCell (p := ⟨W.heap.size + 3, 0, none⟩) (by show n₀ ≤ W.heap.size + 3; omega) _), rfl, PrO, tourPart ts b cs ++ q, ?_, ?_, r5.out.set _⟩
          · refine List.IsPrefix.trans ?_ (tourPart_prefix ht hb hcs)
            rw [tourPart_snoc, List.append_assoc]
            exact prefix_add (hq.trans ⟨_, rfl⟩)
          · rw [← List.append_assoc]
            exact hJx _ PrO PrO Y _ (some (W.heap.size + 3)) f1.out (grownBy_setCell' Y _ _) (fun r e => by injection e with e; exact r5.out.box _ (by omega) (by omega)) (fun k hk => .inl hk)
      case done =>
        rintro D Pri X hD hPD hP ⟨PrO, v, hj, hr⟩ hK
        have d3 := hr.b3.cell; have d4 := hr.b3.frozen
        have hr' := Lib.hid hr; have hj' := Lib.hid hj; have hK' := Lib.hid hK
        clear hr hj hK
        gi_wp2
        have r7 := hr'.out.set (.bool true)
        have hD3 : D ≠ W.heap.size + 3 := by omega
        have hK2 : (X.setCell ⟨W.heap.size + 3, 0, none⟩ (.bool true)).heap[D]? = some (.deferred (some [])) := (Below.heap_setCell _ _ _ _ hD3).trans hK'.out
        refine ⟨by simp, .inl ⟨_, _, rfl, run_takeDeferred hK2, ?_⟩⟩
        have r8 := r7.step (Pri' := Pri) (grownBy_putObj' _ D (.deferred none)) (fun r e => by cases e; exact hPD) (fun k hk => .inl hk)
        have hc5 := r8.b3.cell
        refine ⟨.bool true, by simp [results, Try.f135, go_sem, hc5], .inl ⟨rfl, ?_, r8.below, r8.kept⟩⟩
        have j7 := hJ _ PrO PrO X _ (some (W.heap.size + 3)) hj'.out (grownBy_setCell' X _ (.bool true)) (fun r e => by injection e with e; exact hr'.out.box _ (by omega) (by omega)) (fun k hk => .inl hk)
        have j8 := hJ.less (Pr' := Pr) (hJ.putObj (.deferred none) j7 (hr'.out.sub D hPD)) hr'.out.sup
        rw [hk1.out, tourPart_all ht hb] at j8
        exact j8
      case stop =>
        rintro D cd cs Pri X hD hPD hP hcs ⟨rfl, PrO, q, hq, hj, hr⟩ hK
        have d3 := hr.b3.cell
        have hr' := Lib.hid hr; have hj' := Lib.hid hj; have hK' := Lib.hid hK
        clear hr hj hK
        gi_wp2
        refine ⟨by simp, .inl ⟨_, _, rfl, run_takeDeferred hK'.out, ?_⟩⟩
        have r8 := hr'.out.step (Pri' := Pri) (grownBy_putObj' _ D (.deferred none)) (fun r e => by cases e; exact hPD) (fun k hk => .inl hk)
        have hc5 := r8.b3.cell
        refine ⟨.bool false, by simp [results, Try.f135, go_sem, hc5], .inr ⟨rfl, q, hq, ?_, r8.below, r8.kept⟩⟩
        exact hJx.less (Pr' := Pr) (hJx.putObj (.deferred none) hj'.out (hr'.out.sub D hPD)) hr'.out.sup
    · have r2 := Lib.hid (r0'.out.go hb2 hk2)
      have hx2' := Lib.hid hx2
      have d3 := r2.out.b3.cell; have d4 := r2.out.b3.frozen
      clear hx2 hb2 hk2 hR' hW1' r0'
      gi_wp2
      have hc5 := (r2.out.set (.bool false)).b3.cell
      refine ⟨.bool false, by simp [results, Try.f135, go_sem, hc5], .inr ⟨rfl, [(b, true)], by rw [tour_step ht hb]; exact ⟨_, rfl⟩, ?_, (r2.out.set (.bool false)).below, (r2.out.set (.bool false)).kept⟩⟩
      exact hJx _ _ _ W2 _ (some (W.heap.size + 3)) hx2'.out (grownBy_setCell' W2 _ _) (fun r e => by cases e; exact .inr (by omega)) (fun k hk => .inl (.inl hk))

set_option maxRecDepth 100000 in
set_option maxHeartbeats 1000000 in
theorem tour_seq (A : Option Addr) (n c : Nat) (ts : List Blk) (b Bt Bb n₀ : Nat) (w : World) (h : BlksAt w n₀ A n ts) (hn : n ≤ 1048576) (ht : Tree ts) (hb : b < ts.length) (hn0 : n₀ ≤ w.heap.size)
    (hbt : Boxed w Bt 23 (.slice A n c)) (hbb : Boxed w Bb 3 (.int .i64 b)) :
    SeqO Try.prog 134 #[.pointer (some ⟨Bt, 0, none⟩), .pointer (some ⟨Bb, 0, none⟩)] (fun x : Nat × Bool => #[Value.int .i64 x.1, .bool x.2]) n₀ (fun _ => False) (tour ts b) w := by
  intro l J Jx W hW hJ hJx hY h0
  have ht1 : Boxed W Bt 23 (.slice A n c) := (hW.block Bt hbt.lt).trans hbt
  have hb1 : Boxed W Bb 3 (.int .i64 b) := (hW.block Bb hbb.lt).trans hbb
  have call := Lib.hid (tourTo_in A n c ts hn ht l n₀ J Jx hJ hJx (tour ts b) hY (ts.length - b) b [] (fun _ => False) W (Nat.le_refl _) hb (List.prefix_refl _) (h.below (hW.mono hn0)) (Nat.le_trans hn0 hW.size) h0)
  have d0 := ht1.cell; have d1 := hb1.cell
  clear h hbt hbb hW ht1 hb1 hY h0
  refine callsIn_of_wp Try.func134 rfl trivial ?_ rfl
  simp only [Try.ntmps134, List.size_toArray, List.length_cons, List.length_nil, Nat.reduceAdd, Nat.reduceSub, Array.replicate_succ, Array.replicate_zero, List.push_toArray, List.append_toArray, List.nil_append, List.cons_append]
  gi_wp2
  refine ⟨trivial, rfl, call.out.mono ?_⟩
  rintro e W1 (⟨rfl, hJ1, _, _⟩ | ⟨rfl, q, hq, hx, _, _⟩)
  · have f1 := Lib.hid hJ1; clear hJ1
    gi_wp2
    go_end0
    exact ⟨⟨_, rfl⟩, .inl ⟨_, f1.out⟩⟩
  · have f1 := Lib.hid hx; clear hx
    gi_wp2
    go_end0
    exact ⟨⟨_, rfl⟩, .inr ⟨q, _, hq, f1.out⟩⟩

set_option maxRecDepth 100000 in
theorem tourFrom_any (A : Option Addr) (n c : Nat) (b : Int) (w : World) :
    Calls Try.prog 112 #[.slice A n c, .int .i64 b] w fun e w' => e = .returned (.func (.func 134) #[] #[.pointer (some ⟨w.heap.size, 0, none⟩), .pointer (some ⟨w.heap.size + 1, 0, none⟩)]) ∧ (w.alloc (.cells #[.slice A n c] 23)).alloc (.cells #[.int .i64 b] 3) = w' := by
  go_enter Try.func112, Try.ntmps112
  go_wp2_with fail
  go_ret
  exact ⟨rfl, rfl⟩
end Go.Proofs.Ythiegfbdmmpabab
