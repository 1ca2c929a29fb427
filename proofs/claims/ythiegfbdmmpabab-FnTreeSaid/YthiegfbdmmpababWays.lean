/- What is proved here: what the program's steps to the parent do, and its depth of a block. No conditions. -/
import Derived.Test.YthiegfbdmmpababTreeSpec
import Derived.Test.YthiegfbdmmpababOwn
namespace Go.Proofs.Ythiegfbdmmpabab
open Go.RowKit

theorem isBlock_any (A : Option Addr) (n c : Nat) (ts : List Blk) (b : Int) (w : World) (h : BlksAt w w.heap.size A n ts) (hn : n ≤ 1048576) :
    Calls Try.prog 70 #[.slice A n c, .int .i64 b] w (UpPost w (.bool (goodT ts && inB b 0 (n - 1)))) := by
  cases hg : goodT ts
  · go_enter Try.func70, Try.ntmps70
    go_wp2_with (go_at_call 60; refine (implGoodT_any _ _ _ ts _ h hn).mono ?_; rintro e w' ⟨rfl, hb⟩; rw [hg])
    go_ret
    exact ⟨rfl, hb⟩
  · by_cases h0 : 0 ≤ b
    · by_cases h1 : b < n
      · have hr := Lib.hid (inB_true h0 (show b ≤ (n : Int) - 1 by omega))
        go_enter Try.func70, Try.ntmps70
        go_wp2_with (go_at_call 60; refine (implGoodT_any _ _ _ ts _ h hn).mono ?_; rintro e w' ⟨rfl, hb⟩; rw [hg])
        go_ret
        exact ⟨ret_bool (by rw [hr.out]; simp), hb⟩
      · have hr := Lib.hid (inB_high (lo := 0) (show (n : Int) - 1 < b by omega))
        go_enter Try.func70, Try.ntmps70
        go_wp2_with (go_at_call 60; refine (implGoodT_any _ _ _ ts _ h hn).mono ?_; rintro e w' ⟨rfl, hb⟩; rw [hg])
        go_ret
        exact ⟨ret_bool (by rw [hr.out]; simp; omega), hb⟩
    · have hr := Lib.hid (inB_low (hi := (n : Int) - 1) (show b < 0 by omega))
      go_enter Try.func70, Try.ntmps70
      go_wp2_with (go_at_call 60; refine (implGoodT_any _ _ _ ts _ h hn).mono ?_; rintro e w' ⟨rfl, hb⟩; rw [hg])
      go_ret
      exact ⟨ret_bool (by rw [hr.out]), hb⟩

/-- The memory behind a walk towards the genesis block: the block that comes next (in g) and the tree (in t). -/
structure Steps (w0 w : World) (g t : Nat) (A : Option Addr) (n c : Nat) (b : Int) : Prop where
  cur : w.rowIs g 3 1 (fun _ => .int .i64 b)
  tree : w.rowIs t 23 1 (fun _ => .slice A n c)
  ne : t ≠ g
  low : w0.heap.size ≤ g
  bel : Below w0.heap.size w0 w
theorem Steps.set {w0 w : World} {g t n c : Nat} {A : Option Addr} {b : Int} (h : Steps w0 w g t A n c b) (b' : Int) : Steps w0 (w.setCell ⟨g, 0, none⟩ (.int .i64 b')) g t A n c b' :=
  ⟨(h.cur.set 0 _).congr (fun i hi => by rw [if_pos (by omega)]), h.tree.setOther h.ne _, h.ne, h.low, h.bel.setCell h.low _⟩
theorem one_cell (v : Value) : ∀ i, i < 1 → #[v][i]? = some ((fun _ => v) i)
  | 0, _ => rfl
  | i + 1, h => absurd h (by omega)
def stepV (g t : Nat) : Value := .func (.func 125) #[] #[.pointer (some ⟨g, 0, none⟩), .pointer (some ⟨t, 0, none⟩)]
def StepsPost (w : World) (A : Option Addr) (n c : Nat) (b : Int) (e : Ending) (w' : World) : Prop :=
  ∃ g t, e = .returned (stepV g t) ∧ Steps w w' g t A n c b

theorem stepsUp_any (A : Option Addr) (n c : Nat) (b : Int) (w : World) :
    Calls Try.prog 79 #[.slice A n c, .int .i64 b] w (StepsPost w A n c b) := by
  have hmf : ∀ (fn : Fn) (first cap : Array Value) (w : World), (Instr.makeFunc fn first cap).run Try.prog w = .ok (.func fn first cap) w := fun _ _ _ _ => rfl
  go_enter Try.func79, Try.ntmps79
  go_wp2_with fail
  go_ret
  refine ⟨w.heap.size + 1, w.heap.size, rfl, ⟨?_, ?_, by omega, by omega, ((Below.refl _ _).alloc (Nat.le_refl _) _).alloc (by simp) _⟩⟩
  · exact ⟨#[.int .i64 b], heap_alloc2_new _ _ _, rfl, one_cell _⟩
  · exact ⟨#[.slice A n c], heap_alloc2_old _ _ _, rfl, one_cell _⟩

theorem step_any (A : Option Addr) (n c g t : Nat) (ts : List Blk) (k : Nat) (w0 w : World) (h : BlksAt w0 w0.heap.size A n ts) (hn : n ≤ 1048576) (hs : Steps w0 w g t A n c k) (hk : k < n) :
    Calls Try.prog 125 #[.pointer (some ⟨g, 0, none⟩), .pointer (some ⟨t, 0, none⟩)] w fun e w' => e = .returned (.int .i64 k) ∧ Steps w0 w' g t A n c (parZ ts k) := by
  obtain ⟨b, off, rfl, hb, hcs⟩ := h.at (by omega)
  have c0 := hs.cur.cell (i := 0) (by omega)
  have c1 := hs.tree.cell (i := 0) (by omega)
  have f0 := hs.cur.frozen 0
  have d0 := (hs.bel.cell (p := ⟨b, off + k * 2, none⟩) hb).trans (hcs k hk).1
  have hs' := Lib.hid (hs.set (parZ ts k))
  have hk0 : ((k : Int) != -1) = true := by simp
  clear hs hcs h
  go_enter Try.func125, Try.ntmps125
  go_wp2_with fail
  go_ret
  exact ⟨rfl, hs'.out⟩

theorem step_end (A : Option Addr) (n c g t : Nat) (w0 w : World) (hs : Steps w0 w g t A n c (-1)) :
    Calls Try.prog 125 #[.pointer (some ⟨g, 0, none⟩), .pointer (some ⟨t, 0, none⟩)] w fun e w' => e = .returned (.int .i64 (-1)) ∧ Steps w0 w' g t A n c (-1) := by
  have c0 := hs.cur.cell (i := 0) (by omega)
  have hs' := Lib.hid hs; clear hs
  go_enter Try.func125, Try.ntmps125
  go_wp2_with fail
  go_ret
  exact ⟨rfl, hs'.out⟩

theorem depthIn_any (A : Option Addr) (n c : Nat) (ts : List Blk) (b : Nat) (w : World) (h : BlksAt w w.heap.size A n ts) (hn : n ≤ 1048576) (ht : Tree ts) (hb : b < n) :
    Calls Try.prog 113 #[.slice A n c, .int .i64 b] w (UpPost w (.int .i64 (dep ts b))) := by
  have hl := Lib.hid h.1
  go_enter Try.func113, Try.ntmps113
  go_wp2_with fail
  refine (stepsUp_any _ _ _ _ _).mono ?_
  rintro e w1 ⟨g, t, rfl, hs⟩
  unfold stepV
  go_wp2_with fail
  refine (step_any _ _ _ _ _ ts b w w1 h hn hs hb).mono ?_
  clear hs
  rintro e w2 ⟨rfl, hs⟩
  have hs' := Lib.hid hs; clear hs
  go_wp2_with fail
  go_loopw [5, 7] (fun d i wr => ∃ j k : Nat, d = .int .i64 j ∧ i = .int .i64 k ∧ k < n ∧ Hid (j + dep ts k = dep ts b) ∧ j ≤ n ∧ Hid (Steps w wr g t A n c (parZ ts k))) (fun _ i _ => (intOf i).toNat)
  case atStart => exact ⟨0, b, rfl, rfl, hb, Lib.hid (by omega), by omega, hs'⟩
  case round =>
    obtain ⟨j, k, rfl, rfl, hk, hd, hj, hs⟩ := hrel
    by_cases h0 : k = 0
    · subst h0
      go_wp2_with fail
      go_ret
      exact ⟨ret_int (by have := hd.out; rw [dep_root] at this; omega), hs.out.bel⟩
    · have hk0 : ((k : Int) != 0) = true := by simp; omega
      have hu := ht.up (k := k) (by rw [hl.out]; omega) h0
      have hde := dep_step ht (k := k) (by rw [hl.out]; omega) h0
      have hdl := dep_le ht (k := b) (by rw [hl.out]; omega)
      have hd2 := hd.out
      have hj2 : j + 1 ≤ n := by omega
      have hdn := Lib.hid (show j + 1 + dep ts (parN ts k) = dep ts b by omega)
      have hs2 := Lib.hid (show Steps w wr g t A n c (parN ts k : Nat) by rw [← hu.1]; exact hs.out)
      have hu2 := hu.2
      clear hu hde hdl hd2 h0
      go_wp2_with fail
      refine (step_any _ _ _ _ _ ts (parN ts k) w wr h hn hs2.out (by omega)).mono ?_
      rintro e w2 ⟨rfl, hs3⟩
      have hs4 := Lib.hid hs3; clear hs3
      go_wp2_with fail
      go_roundw
      case rel => exact ⟨j + 1, parN ts k, by go_num, rfl, by omega, hdn, hj2, hs4⟩
      case measure => simp [intOf]; omega
end Go.Proofs.Ythiegfbdmmpabab

/- What is proved here: what the model's paths are, and DepthOf of the program and of the model. No conditions. -/
namespace Go.Proofs.Ythiegfbdmmpabab
open Go.RowKit

/-- The tree is valid and b is one of its blocks. -/
def okK (ts : List Blk) (b : Int) : Bool := goodT ts && inB b 0 (ts.length - 1)
theorem okK_iff {ts : List Blk} {b : Int} : okK ts b = true ↔ Tree ts ∧ ∃ k : Nat, b = k ∧ k < ts.length := by
  unfold okK
  rw [Bool.and_eq_true, goodT_iff, inB_iff]
  constructor
  · rintro ⟨h, h0, h1⟩
    exact ⟨h, b.toNat, by omega, by omega⟩
  · rintro ⟨h, k, rfl, hk⟩
    exact ⟨h, by omega, by omega⟩
theorem isBlock_ok (A : Option Addr) (n c : Nat) (ts : List Blk) (b : Int) (w : World) (h : BlksAt w w.heap.size A n ts) (hn : n ≤ 1048576) :
    Calls Try.prog 70 #[.slice A n c, .int .i64 b] w (UpPost w (.bool (okK ts b))) := by
  unfold okK; rw [h.1]; exact isBlock_any A n c ts b w h hn
theorem there_ok (A : Option Addr) (n c : Nat) (ts : List Blk) (b : Int) (w : World) (h : BlksAt w w.heap.size A n ts) (hn : n ≤ 1048576) :
    Calls Try.prog 118 #[.slice A n c, .int .i64 b] w (UpPost w (.bool (okK ts b))) := by
  unfold okK; rw [h.1]
  cases hg : goodT ts
  · go_enter Try.func118, Try.ntmps118
    go_wp2_with (go_at_call 61; refine (specGoodT_any _ _ _ ts _ h hn).mono ?_; rintro e w' ⟨rfl, hb⟩; rw [hg])
    go_ret
    exact ⟨rfl, hb⟩
  · by_cases h0 : 0 ≤ b
    · by_cases h1 : b < n
      · have hr := Lib.hid (inB_true h0 (show b ≤ (n : Int) - 1 by omega))
        go_enter Try.func118, Try.ntmps118
        go_wp2_with (go_at_call 61; refine (specGoodT_any _ _ _ ts _ h hn).mono ?_; rintro e w' ⟨rfl, hb⟩; rw [hg])
        go_ret
        exact ⟨ret_bool (by rw [hr.out]; simp), hb⟩
      · have hr := Lib.hid (inB_high (lo := 0) (show (n : Int) - 1 < b by omega))
        go_enter Try.func118, Try.ntmps118
        go_wp2_with (go_at_call 61; refine (specGoodT_any _ _ _ ts _ h hn).mono ?_; rintro e w' ⟨rfl, hb⟩; rw [hg])
        go_ret
        exact ⟨ret_bool (by rw [hr.out]; simp; omega), hb⟩
    · have hr := Lib.hid (inB_low (hi := (n : Int) - 1) (show b < 0 by omega))
      go_enter Try.func118, Try.ntmps118
      go_wp2_with (go_at_call 61; refine (specGoodT_any _ _ _ ts _ h hn).mono ?_; rintro e w' ⟨rfl, hb⟩; rw [hg])
      go_ret
      exact ⟨ret_bool (by rw [hr.out]), hb⟩

def wayV (ts : List Blk) (k : Nat) : List Int := (way ts k).map fun (j : Nat) => (j : Int)
theorem wayV_len {ts : List Blk} (h : Tree ts) {k : Nat} (hk : k < ts.length) : (wayV ts k).length = dep ts k + 1 := by
  unfold wayV; rw [List.length_map, way_len h hk]
theorem wayV_root (ts : List Blk) : wayV ts 0 = [0] := rfl
theorem wayV_step {ts : List Blk} (h : Tree ts) {k : Nat} (hk : k < ts.length) (h0 : k ≠ 0) : wayV ts k = wayV ts (parN ts k) ++ [(k : Int)] := by
  unfold wayV; rw [way_step h hk h0]; simp
/-- A slice of the call's own, which holds xs. -/
def OwnPost (w : World) (xs : List Int) (e : Ending) (w' : World) : Prop :=
  ∃ v, e = .returned v ∧ w'.ownsRow w.heap.size 3 1 v xs.length (xs.map (Value.int .i64)) ∧ Below w.heap.size w w'

theorem wayNil_any (A : Option Addr) (n c : Nat) (w : World) :
    Calls Try.prog 121 #[.slice A n c, .int .i64 (-1)] w (OwnPost w []) := by
  go_enter Try.func121, Try.ntmps121
  go_wp2_with fail
  go_ret
  exact ⟨_, rfl, World.ownsRow_nil _ _ _ _, Below.refl _ _⟩

set_option maxHeartbeats 400000 in
theorem wayRoot_any (A : Option Addr) (n c : Nat) (ts : List Blk) (ht : Tree ts) (w : World) (hk : 0 < n) (h : BlksAt w w.heap.size A n ts) :
    Calls Try.prog 121 #[.slice A n c, .int .i64 0] w (OwnPost w (wayV ts 0)) := by
  obtain ⟨i0, hi0, hz0, hz1, hz2⟩ := info_parts info3
  obtain ⟨b, off, rfl, hb, hcs⟩ := h.at hk
  have d0 := (hcs 0 hk).1
  have hroot : (ts[0]?.getD (0, 0)).1 = -1 := ht.root
  rw [hroot, Nat.zero_mul, Nat.add_zero] at d0
  clear hroot hcs h
  go_enter Try.func121, Try.ntmps121
  go_wp2_with fail
  refine (wayNil_any _ _ _ _).mono ?_
  rintro e w1 ⟨v, rfl, hown, hbel⟩
  have hs1 := hbel.size
  go_wp2_with (at_builtin; refine wpList_append_own _ rfl _ _ 24 rfl w.heap.size 3 i0 (.int .i64 0) 1 8 Try.underlying24 hi0 hz0 hz1 hz2 rfl (by decide) _ _ _ rfl (hown.alloc _) ⟨w1.heap.size, 0, none⟩ 1 1 [.int .i64 0] rfl rfl ?c1 ?c2 ?c3 ?c4 ?c5 ?_)
  case c1 =>
    intro j u hj
    match j, hj with
    | 0, hj => simp at hj; subst hj; simp [Addr.add]
  case c2 => intro u hu; simp at hu; subst hu; rfl
  case c3 => unfold maxLen; simp
  case c4 => simp
  case c5 => simp; omega
  intro v' w2 hown1 hgrow _
  have hbel1 : Below w.heap.size w w2 := (hbel.alloc hbel.size _).grown hgrow (by simp; omega) (fun g hg => (hown.lt g hg).1)
  have hown1' := Lib.hid hown1; clear hown1 hgrow
  go_wp2_with fail
  go_ret
  refine ⟨_, rfl, ?_, hbel1⟩
  rw [wayV_root]
  simpa using hown1'.out

set_option maxRecDepth 100000 in
set_option maxHeartbeats 400000 in
theorem l3Way_any (A : Option Addr) (n c : Nat) (ts : List Blk) (hn : n ≤ 1048576) (ht : Tree ts) (f : Nat) : ∀ (k : Nat) (w : World), k ≤ f → k < n → BlksAt w w.heap.size A n ts →
    Calls Try.prog 121 #[.slice A n c, .int .i64 k] w (OwnPost w (wayV ts k)) := by
  induction f with
  | zero =>
    intro k w hf hk h
    have hk0 : k = 0 := by omega
    subst hk0
    exact wayRoot_any A n c ts ht w hk h
  | succ f ih =>
    intro k w hf hk h
    have hl := Lib.hid h.1
    by_cases hk0 : k = 0
    · subst hk0
      exact wayRoot_any A n c ts ht w hk h
    · obtain ⟨i0, hi0, hz0, hz1, hz2⟩ := info_parts info3
      have hu := ht.up (k := k) (by rw [hl.out]; exact hk) hk0
      obtain ⟨b, off, e, hb, hcs⟩ := h.at (by omega)
      have d0 := (hcs k hk).1
      rw [show (ts[k]?.getD (0, 0)).1 = (parN ts k : Int) from hu.1] at d0
      have hu2 := hu.2
      have hst := Lib.hid (wayV_step ht (k := k) (by rw [hl.out]; exact hk) hk0)
      have hwl := Lib.hid (wayV_len ht (k := parN ts k) (by rw [hl.out]; omega))
      have hdl := dep_le ht (k := parN ts k) (by rw [hl.out]; omega)
      have hih := Lib.hid (ih (parN ts k) w (by omega) (by omega) h)
      subst e
      clear hu hcs h ih
      go_enter Try.func121, Try.ntmps121
      go_wp2_with fail
      refine hih.out.mono ?_
      rintro e w1 ⟨v, rfl, hown, hbel⟩
      have hs1 := hbel.size
      go_wp2_with (at_builtin; refine wpList_append_own _ rfl _ _ 24 rfl w.heap.size 3 i0 (.int .i64 0) 1 8 Try.underlying24 hi0 hz0 hz1 hz2 rfl (by decide) _ _ _ rfl (hown.alloc _) ⟨w1.heap.size, 0, none⟩ 1 1 [.int .i64 (k : Int)] rfl rfl ?c1 ?c2 ?c3 ?c4 ?c5 ?_)
      case c1 =>
        intro j u hj
        match j, hj with
        | 0, hj => simp at hj; subst hj; simp [Addr.add]
      case c2 => intro u hu; simp at hu; subst hu; rfl
      case c3 => unfold maxLen; rw [hwl.out]; omega
      case c4 => rw [hwl.out]; omega
      case c5 => simp; omega
      intro v' w2 hown1 hgrow _
      have hbel1 : Below w.heap.size w w2 := (hbel.alloc hbel.size _).grown hgrow (by simp; omega) (fun g hg => (hown.lt g hg).1)
      have hown1' := Lib.hid hown1; clear hown1 hgrow hown
      go_wp2_with fail
      go_ret
      refine ⟨_, rfl, ?_, hbel1⟩
      rw [hst.out]
      simpa using hown1'.out

/-- What is known of a path in memory: its value, and that it reads so. -/
theorem OwnPost.sl {w w' : World} {xs : List Int} {e : Ending} (h : OwnPost w xs e w') : RetSl w xs e w' := by
  obtain ⟨v, rfl, hown, hbel⟩ := h
  obtain ⟨A, c, rfl, ho⟩ := OwnAt.of_owns hown
  exact ⟨A, _, c, rfl, ho, hbel⟩
theorem way_ok (A : Option Addr) (n c : Nat) (ts : List Blk) (k : Nat) (w : World) (h : BlksAt w w.heap.size A n ts) (hn : n ≤ 1048576) (ht : Tree ts) (hk : k < n) :
    Calls Try.prog 121 #[.slice A n c, .int .i64 k] w (RetSl w (wayV ts k)) :=
  (l3Way_any A n c ts hn ht k k w (Nat.le_refl _) hk h).mono fun _ _ h => h.sl

def depR (ts : List Blk) (b : Int) : Int := if okK ts b then (dep ts b.toNat : Nat) else 0
def twoV (a : Int) (b : Bool) : Value := .tuple #[.int .i64 a, .bool b]
theorem implDepth_any (A : Option Addr) (n c : Nat) (ts : List Blk) (a : Int) (w : World) (h : BlksAt w w.heap.size A n ts) (hn : n ≤ 1048576) :
    Calls Try.prog 62 #[.slice A n c, .int .i64 a] w (UpPost w (.tuple #[.int .i64 (depR ts a), .bool (okK ts a)])) := by
  cases hk : okK ts a
  · have hr := Lib.hid (show depR ts a = 0 by unfold depR; rw [hk]; rfl)
    have hh := Lib.hid h; clear h
    go_enter Try.func62, Try.ntmps62
    go_wp2_with (go_at_call 70; refine (isBlock_ok _ _ _ ts _ _ hh.out hn).mono ?_; rintro e w1 ⟨rfl, b1⟩; rw [hk])
    go_ret2
    exact ⟨ret_two hr.out.symm rfl, b1⟩
  · obtain ⟨ht, k, rfl, hkl⟩ := okK_iff.1 hk
    have hr := Lib.hid (show depR ts k = dep ts k by unfold depR; rw [hk]; rfl)
    have hh := Lib.hid h; clear h
    go_enter Try.func62, Try.ntmps62
    go_wp2_with (go_at_call 70; refine (isBlock_ok _ _ _ ts _ _ hh.out hn).mono ?_; rintro e w1 ⟨rfl, b1⟩; rw [hk]; have u1 := Lib.hid b1; clear b1)
    refine (depthIn_any _ _ _ ts k _ (hh.out.up u1.out) hn ht (by rw [← hh.out.1]; exact hkl)).mono ?_
    rintro e w2 ⟨rfl, b2⟩
    have u2 := Lib.hid (u1.out.trans (b2.mono u1.out.size)); clear b2
    go_wp2_with fail
    go_ret2
    exact ⟨ret_two hr.out.symm rfl, u2.out⟩

theorem specDepth_any (A : Option Addr) (n c : Nat) (ts : List Blk) (a : Int) (w : World) (h : BlksAt w w.heap.size A n ts) (hn : n ≤ 1048576) :
    Calls Try.prog 65 #[.slice A n c, .int .i64 a] w (UpPost w (.tuple #[.int .i64 (depR ts a), .bool (okK ts a)])) := by
  cases hk : okK ts a
  · have hr := Lib.hid (show depR ts a = 0 by unfold depR; rw [hk]; rfl)
    have hh := Lib.hid h; clear h
    go_enter Try.func65, Try.ntmps65
    go_wp2_with (go_at_call 118; refine (there_ok _ _ _ ts _ _ hh.out hn).mono ?_; rintro e w1 ⟨rfl, b1⟩; rw [hk])
    go_ret2
    exact ⟨ret_two hr.out.symm rfl, b1⟩
  · obtain ⟨ht, k, rfl, hkl⟩ := okK_iff.1 hk
    have hr := Lib.hid (show depR ts k = dep ts k by unfold depR; rw [hk]; rfl)
    have hh := Lib.hid h; clear h
    have hd := dep_le ht hkl
    have hwl := Lib.hid (wayV_len ht hkl)
    have hfew := ht.few
    go_enter Try.func65, Try.ntmps65
    go_wp2_with (go_at_call 118; refine (there_ok _ _ _ ts _ _ hh.out hn).mono ?_; rintro e w1 ⟨rfl, b1⟩; rw [hk]; have u1 := Lib.hid b1; clear b1)
    refine (way_ok _ _ _ ts k _ (hh.out.up u1.out) hn ht (by rw [← hh.out.1]; exact hkl)).mono ?_
    rintro e w2 ⟨A2, n2, c2, rfl, ho, b2⟩
    have hn2 : n2 = dep ts k + 1 := by rw [← ho.len, hwl.out]
    subst hn2
    have u2 := Lib.hid (u1.out.trans (b2.mono u1.out.size)); clear b2 ho
    go_wp2_with fail
    go_ret2
    exact ⟨ret_two (by rw [hr.out]) rfl, u2.out⟩
end Go.Proofs.Ythiegfbdmmpabab
