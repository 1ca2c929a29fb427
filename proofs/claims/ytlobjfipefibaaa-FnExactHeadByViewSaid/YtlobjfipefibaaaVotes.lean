/- What is proved here: how a slice of votes in memory reads as a list of triples, and what the law's copy, comparison and marking of such slices do. No conditions but lengths. -/
import Derived.Test.YtlobjfipefibaaaBlocks
import Derived.Test.YtlobjfipefibaaaLawCopy
namespace Go.Proofs.Ytlobjfipefibaaa
open Go.RowKit

abbrev Vt := Int × Int × Int
def vtV (x : Vt) : Value := .agg #[.int .i64 x.1, .int .i64 x.2.1, .int .i64 x.2.2]
def getV (vs : List Vt) (k : Nat) : Vt := vs[k]?.getD (0, 0, 0)
/-- The slice with the address A and n elements holds the votes vs, in memory below B. -/
def VotesAt (w : World) (B : Nat) (A : Option Addr) (n : Nat) (vs : List Vt) : Prop :=
  vs.length = n ∧ ∀ k, k < n → ∃ b off, A = some ⟨b, off, none⟩ ∧ b < B ∧ w.cell? ⟨b, off + k * 3, none⟩ = some (.int .i64 (getV vs k).1) ∧ w.cell? ⟨b, off + k * 3 + 1, none⟩ = some (.int .i64 (getV vs k).2.1) ∧ w.cell? ⟨b, off + k * 3 + 2, none⟩ = some (.int .i64 (getV vs k).2.2)

section
variable {w w' : World} {B B' n : Nat} {A : Option Addr} {vs : List Vt}
theorem VotesAt.keep (h : VotesAt w B A n vs) (hk : ∀ p : Addr, p.block < B → w'.cell? p = w.cell? p) : VotesAt w' B A n vs :=
  ⟨h.1, fun k hn => by
    obtain ⟨b, off, e, hb, hc, hd, he⟩ := h.2 k hn
    exact ⟨b, off, e, hb, (hk _ hb).trans hc, (hk _ hb).trans hd, (hk _ hb).trans he⟩⟩
theorem VotesAt.more (h : VotesAt w B A n vs) (hB : B ≤ B') : VotesAt w B' A n vs :=
  ⟨h.1, fun k hn => by
    obtain ⟨b, off, e, hb, hc⟩ := h.2 k hn
    exact ⟨b, off, e, by omega, hc⟩⟩
theorem VotesAt.below (h : VotesAt w B A n vs) (hb : Below B w w') : VotesAt w' B A n vs := h.keep fun _ hp => hb.cell hp
theorem VotesAt.up (h : VotesAt w w.heap.size A n vs) (hb : Below w.heap.size w w') : VotesAt w' w'.heap.size A n vs := (h.below hb).more hb.size
theorem VotesAt.at (h : VotesAt w B A n vs) (hn : 0 < n) : ∃ b off, A = some ⟨b, off, none⟩ ∧ b < B ∧ ∀ k, k < n → w.cell? ⟨b, off + k * 3, none⟩ = some (.int .i64 (getV vs k).1) ∧ w.cell? ⟨b, off + k * 3 + 1, none⟩ = some (.int .i64 (getV vs k).2.1) ∧ w.cell? ⟨b, off + k * 3 + 2, none⟩ = some (.int .i64 (getV vs k).2.2) := by
  obtain ⟨b, off, rfl, hb, _⟩ := h.2 0 hn
  refine ⟨b, off, rfl, hb, fun k hk => ?_⟩
  obtain ⟨b', off', e, _, hc⟩ := h.2 k hk
  cases e
  exact hc
theorem VotesAt.nil : VotesAt w B A 0 [] := ⟨rfl, fun _ h => absurd h (Nat.not_lt_zero _)⟩
end

/-- The cells of a list of votes, one after the other. -/
def cellsV (vs : List Vt) (i : Nat) : Value := .int .i64 (if i % 3 = 0 then (getV vs (i / 3)).1 else if i % 3 = 1 then (getV vs (i / 3)).2.1 else (getV vs (i / 3)).2.2)
theorem cellsV_0 (vs : List Vt) (k : Nat) : cellsV vs (k * 3) = .int .i64 (getV vs k).1 := by
  unfold cellsV; rw [if_pos (by omega), show k * 3 / 3 = k by omega]
theorem cellsV_1 (vs : List Vt) (k : Nat) : cellsV vs (k * 3 + 1) = .int .i64 (getV vs k).2.1 := by
  unfold cellsV; rw [if_neg (by omega), if_pos (by omega), show (k * 3 + 1) / 3 = k by omega]
theorem cellsV_2 (vs : List Vt) (k : Nat) : cellsV vs (k * 3 + 2) = .int .i64 (getV vs k).2.2 := by
  unfold cellsV; rw [if_neg (by omega), if_neg (by omega), show (k * 3 + 2) / 3 = k by omega]
theorem VotesAt.of_row {w : World} {B b n m : Nat} {vs : List Vt} {t : TypeId} (hb : b < B) (hl : vs.length = n) (hm : n ≤ m) (h : w.rowIs b t (m * 3) (cellsV vs)) : VotesAt w B (some ⟨b, 0, none⟩) n vs :=
  ⟨hl, fun k hk => ⟨b, 0, rfl, hb, by rw [Nat.zero_add, h.cell (by omega), cellsV_0], by rw [Nat.zero_add, h.cell (by omega), cellsV_1], by rw [Nat.zero_add, h.cell (by omega), cellsV_2]⟩⟩

/-- The slice with the address A and n elements holds vs; where it is not nil it begins a block of its own, from block B on. -/
structure OwnV (w : World) (B : Nat) (A : Option Addr) (n : Nat) (vs : List Vt) : Prop where
  len : vs.length = n
  own : 0 < n → ∃ g m f, A = some ⟨g, 0, none⟩ ∧ n ≤ m ∧ w.rowIs g 53 (m * 3) f ∧ ∀ i, i < n * 3 → f i = cellsV vs i
  low : ∀ ad, A = some ad → B ≤ ad.block ∧ ad.block < w.heap.size
section
variable {w w' : World} {B B' n : Nat} {A : Option Addr} {vs : List Vt}
theorem OwnV.votes (h : OwnV w B A n vs) : VotesAt w w.heap.size A n vs :=
  ⟨h.len, fun k hk => by
    obtain ⟨g, m, f, e, hm, hr, hf⟩ := h.own (by omega)
    exact ⟨g, 0, e, hr.lt, by rw [Nat.zero_add, hr.cell (by omega), hf _ (by omega), cellsV_0], by rw [Nat.zero_add, hr.cell (by omega), hf _ (by omega), cellsV_1], by rw [Nat.zero_add, hr.cell (by omega), hf _ (by omega), cellsV_2]⟩⟩
theorem OwnV.fewer (h : OwnV w B A n vs) (hB : B' ≤ B) : OwnV w B' A n vs :=
  ⟨h.len, h.own, fun ad e => ⟨Nat.le_trans hB (h.low ad e).1, (h.low ad e).2⟩⟩
theorem OwnV.keep (h : OwnV w B A n vs) (hs : w.heap.size ≤ w'.heap.size) (hk : ∀ ad, A = some ad → w'.heap[ad.block]? = w.heap[ad.block]?) : OwnV w' B A n vs :=
  ⟨h.len, fun hn => by
    obtain ⟨g, m, f, e, hm, hr, hf⟩ := h.own hn
    exact ⟨g, m, f, e, hm, hr.of_block (hk _ e), hf⟩, fun ad e => ⟨(h.low ad e).1, Nat.lt_of_lt_of_le (h.low ad e).2 hs⟩⟩
theorem OwnV.below (h : OwnV w B A n vs) (hb : Below w.heap.size w w') : OwnV w' B A n vs :=
  h.keep hb.size (fun ad e => hb.block _ (h.low ad e).2)
theorem OwnV.drewN (h : OwnV w B A n vs) (k : Nat) : OwnV (w.drewN k) B A n vs := ⟨h.len, h.own, h.low⟩
theorem OwnV.only {A' : Option Addr} (h : OwnV w B A n vs) (ho : Only A' w w') (hd : ∀ ad ad', A = some ad → A' = some ad' → ad.block ≠ ad'.block) : OwnV w' B A n vs :=
  h.keep (by rw [ho.size]; exact Nat.le_refl _) (fun ad e => ho.block _ (fun ad' e' => hd ad ad' e e'))
theorem OwnV.nil (w : World) (B : Nat) : OwnV w B none 0 [] := ⟨rfl, fun h => absurd h (Nat.lt_irrefl _), fun _ e => by cases e⟩
theorem OwnV.of_row {g : Nat} (hl : vs.length = n) (hB : B ≤ g) (h : w.rowIs g 53 (n * 3) (cellsV vs)) : OwnV w B (some ⟨g, 0, none⟩) n vs :=
  ⟨hl, fun _ => ⟨g, n, _, rfl, Nat.le_refl _, h, fun _ _ => rfl⟩, fun ad e => by cases e; exact ⟨hB, h.lt⟩⟩
end

theorem toVote_any (x y z : Int) (w : World) :
    Calls Try.prog 33 #[.agg #[.int .i64 x, .int .i64 y, .int .i64 z]] w fun e w' => e = .returned (.agg #[.int .i64 x, .int .i64 y, .int .i64 z]) ∧ Below w.heap.size w w' := by
  have hb : ∀ a b c : Obj, Below w.heap.size w (((w.alloc a).alloc b).alloc c) := fun a b c => (((Below.refl _ w).alloc (Nat.le_refl _) a).alloc (by simp) b).alloc (by simp; omega) c
  have hB := Lib.hid hb; clear hb
  go_enter Try.func33, Try.ntmps33
  go_wp2
  refine bodyPost_ret (results_cell_row rfl _ _ (w.heap.size + 1) 53 #[.int .i64 x, .int .i64 y, .int .i64 z] (0, 0) _ rfl ?_ Try.underlying53 rfl (by kernel_rfl)) rfl ?_
  · rw [Below.heap_alloc _ _ _ (by simp)]
    exact heap_alloc2_new _ _ _
  · exact ⟨rfl, hB.out _ _ _⟩
theorem eqVote_any (x y z x' y' z' : Int) (w : World) :
    Calls Try.prog 76 #[.agg #[.int .i64 x, .int .i64 y, .int .i64 z], .agg #[.int .i64 x', .int .i64 y', .int .i64 z']] w fun e w' => e = .returned (.bool (x == x' && y == y' && z == z')) ∧ Below w.heap.size w w' := by
  have hb : ∀ a b : Obj, Below w.heap.size w ((w.alloc a).alloc b) := fun a b => ((Below.refl _ w).alloc (Nat.le_refl _) a).alloc (by simp) b
  have hB := Lib.hid hb; clear hb
  cases h1 : (x != x')
  · have e1 := Lib.hid (show (x == x') = true by simpa using h1)
    cases h2 : (y != y')
    · have e2 := Lib.hid (show (y == y') = true by simpa using h2)
      cases h3 : (z != z')
      · have e3 := Lib.hid (show (z == z') = true by simpa using h3)
        go_enter Try.func76, Try.ntmps76
        go_wp2
        go_ret
        exact ⟨ret_bool (by rw [e1.out, e2.out, e3.out]; rfl), hB.out _ _⟩
      · have e3 := Lib.hid (show (z == z') = false by simpa using h3)
        go_enter Try.func76, Try.ntmps76
        go_wp2
        go_ret
        exact ⟨ret_bool (by rw [e3.out]; simp), hB.out _ _⟩
    · have e2 := Lib.hid (show (y == y') = false by simpa using h2)
      go_enter Try.func76, Try.ntmps76
      go_wp2
      go_ret
      exact ⟨ret_bool (by rw [e2.out]; simp), hB.out _ _⟩
  · have e1 := Lib.hid (show (x == x') = false by simpa using h1)
    go_enter Try.func76, Try.ntmps76
    go_wp2
    go_ret
    exact ⟨ret_bool (by rw [e1.out]; simp), hB.out _ _⟩

theorem szVote_g (A : Option Addr) (n c : Nat) (L : Int) (w : World) (hn : n ≤ 9223372036854775807) (hL0 : 0 ≤ L) (hL1 : L ≤ 1048576) :
    Calls Try.prog 15 #[.slice A n c, .int .i64 L] w fun e w' => e = .returned (.int .i64 (if (n : Int) ≤ L then L - n else -1)) ∧ w = w' := by
  by_cases h : (n : Int) ≤ L
  · have hr := Lib.hid (show (if (n : Int) ≤ L then L - n else -1) = L - n from if_pos h)
    have h' : ¬ (L - (n : Int) < 0) := by omega
    go_enter Try.func15, Try.ntmps15
    go_wp2
    go_ret
    first | exact ⟨rfl, rfl⟩ | exact ⟨ret_int hr.out.symm, rfl⟩
  · have hr := Lib.hid (show (if (n : Int) ≤ L then L - n else -1) = -1 from if_neg h)
    have h' : L - (n : Int) < 0 := by omega
    go_enter Try.func15, Try.ntmps15
    go_wp2
    go_ret
    first | exact ⟨rfl, rfl⟩ | exact ⟨ret_int hr.out.symm, rfl⟩

theorem infoVote : (Try.prog.info? 53).map (fun i => (i.zero, i.size, i.bytes)) = some (some (.agg #[.int .i64 0, .int .i64 0, .int .i64 0]), 3, 24) := by kernel_rfl
theorem make_votes (n : Nat) (hn : n ≤ 1048576) (w : World) :
    (Instr.makeSlice 27 (.int .i64 (n : Int)) (.int .i64 (n : Int))).run Try.prog w = .ok (.slice (some ⟨w.heap.size, 0, none⟩) n n) (w.alloc (.cells (madeCells #[.int .i64 0, .int .i64 0, .int .i64 0] (n * 3)) 53)) := by
  obtain ⟨i, hi, hzz⟩ := Option.map_eq_some_iff.1 infoVote
  simp only [Prod.mk.injEq] at hzz
  obtain ⟨hz, hs, hb⟩ := hzz
  have hr := run_make w 27 53 i _ Try.underlying27 hi hz .i64 .i64 n n (by omega) (Int.le_refl _) (by rw [hb]; omega) (by omega)
  rw [hs, Int.toNat_natCast] at hr
  exact hr
theorem row_votes (w : World) (n : Nat) : (w.alloc (.cells (madeCells #[.int .i64 0, .int .i64 0, .int .i64 0] (n * 3)) 53)).rowIs w.heap.size 53 (n * 3) (fun _ => .int .i64 0) :=
  ⟨_, Go.Deep.blk_alloc_new _ _, size_madeCells _ _, fun i hi => by
    have h2 : i % 3 = 0 ∨ i % 3 = 1 ∨ i % 3 = 2 := by omega
    rcases h2 with h | h | h <;> simp [madeCells, hi, h]⟩

set_option maxHeartbeats 800000 in
theorem toVoteS_any (A : Option Addr) (n c : Nat) (vs : List Vt) (w : World) (h : VotesAt w w.heap.size A n vs) (hn : n ≤ 1048576) :
    Calls Try.prog 19 #[.slice A n c] w fun e w' => ∃ g, e = .returned (.slice (some ⟨g, 0, none⟩) n n) ∧
      w'.rowIs g 53 (n * 3) (cellsV vs) ∧ Below w.heap.size w w' ∧ w.heap.size ≤ g ∧ g < w'.heap.size := by
  have hl' := Lib.hid h.1
  have hr := Lib.hid h; clear h
  have hmk := fun W => make_votes n hn W
  go_enter Try.func19, Try.ntmps19
  go_wp2_with fail
  go_loopw [4] (fun i wr => ∃ k : Nat, k ≤ n ∧ i = .int .i64 k ∧ wr.rowIs w.heap.size 53 (n * 3) (fun j => if j < k * 3 then cellsV vs j else .int .i64 0) ∧ Below w.heap.size w wr ∧ w.heap.size < wr.heap.size) (fun i _ => n - (intOf i).toNat)
  case atStart => exact ⟨0, Nat.zero_le _, rfl, (row_votes w n).congr (by intro i hi; simp), (Below.refl _ _).alloc (Nat.le_refl _) _, by simp⟩
  case round =>
    obtain ⟨k, hk, rfl, hrow, hbel, hsz⟩ := hrel
    by_cases hlt : k < n
    · obtain ⟨b, off, rfl, hb, hc0, hd0, he0⟩ := hr.out.2 k hlt
      have hc := (hbel.cell (p := ⟨b, off + k * 3, none⟩) hb).trans hc0
      have hd := (hbel.cell (p := ⟨b, off + k * 3 + 1, none⟩) hb).trans hd0
      have he := (hbel.cell (p := ⟨b, off + k * 3 + 2, none⟩) hb).trans he0
      have hrow' := Lib.hid hrow; clear hrow hc0 hd0 he0
      have hbel' := Lib.hid hbel; clear hbel
      go_wp2_with fail
      refine (toVote_any _ _ _ _).mono ?_
      rintro e w2 ⟨rfl, hb2⟩
      have hrow2 := rowIs_below hrow'.out hb2 (by omega)
      have hs2 := hb2.size
      have c1 := hrow2.cell (i := k * 3) (by omega)
      have c2 := hrow2.cell (i := k * 3 + 1) (by omega)
      have c3 := hrow2.cell (i := k * 3 + 2) (by omega)
      have f1 := hrow2.frozen (k * 3)
      have f2 := hrow2.frozen (k * 3 + 1)
      have f3 := hrow2.frozen (k * 3 + 2)
      have hrow3 := Lib.hid hrow2
      have hbel2 := Lib.hid (hbel'.out.trans (hb2.mono (Nat.le_of_lt hsz)))
      clear hrow2 hb2
      go_wp2_with fail
      go_roundw
      case rel =>
        refine ⟨k + 1, by omega, by go_num, (((hrow3.out.set (k * 3) _).set (k * 3 + 1) _).set (k * 3 + 2) _).congr ?_, ((hbel2.out.setCell (by simp) _).setCell (by simp) _).setCell (by simp) _, by simp; omega⟩
        intro j hj
        by_cases e3 : j = k * 3 + 2
        · subst e3; rw [if_pos rfl, if_pos (by omega), cellsV_2]
        · rw [if_neg e3]
          by_cases e2 : j = k * 3 + 1
          · subst e2; rw [if_pos rfl, if_pos (by omega), cellsV_1]
          · rw [if_neg e2]
            by_cases e1 : j = k * 3
            · subst e1; rw [if_pos rfl, if_pos (by omega), cellsV_0]
            · rw [if_neg e1]
              by_cases e4 : j < k * 3
              · rw [if_pos e4, if_pos (by omega)]
              · rw [if_neg e4, if_neg (by omega)]
      case measure => simp [intOf]; omega
    · have hrow' := Lib.hid hrow; clear hrow
      go_wp2_with fail
      go_ret
      exact ⟨_, rfl, hrow'.out.congr (by intro j hj; simp [show j < k * 3 by omega]), hbel, Nat.le_refl _, hsz⟩

set_option maxHeartbeats 800000 in
theorem eqVoteS_b (A A' : Option Addr) (n n' c c' : Nat) (vs : List Vt) (w : World) (h : VotesAt w w.heap.size A n vs) (h' : VotesAt w w.heap.size A' n' vs) (hn : n ≤ 1048576) (hn' : n' ≤ 1048576) :
    Calls Try.prog 24 #[.slice A n c, .slice A' n' c'] w fun e w' => e = .returned (.bool true) ∧ Below w.heap.size w w' := by
  have he : n = n' := h.1.symm.trans h'.1
  subst he
  have hr := Lib.hid h; clear h
  have hr2 := Lib.hid h'; clear h'
  have hne : ((n : Int) != (n : Int)) = false := by simp
  go_enter Try.func24, Try.ntmps24
  go_wp2_with fail
  go_loopw [5] (fun i wr => ∃ k : Nat, k ≤ n ∧ i = .int .i64 k ∧ Below w.heap.size w wr) (fun i _ => n - (intOf i).toNat)
  case atStart => exact ⟨0, Nat.zero_le _, rfl, Below.refl _ _⟩
  case round =>
    obtain ⟨k, hk, rfl, hbel⟩ := hrel
    by_cases hlt : k < n
    · obtain ⟨b, off, rfl, hb, hc0, hd0, he0⟩ := hr.out.2 k hlt
      obtain ⟨b', off', rfl, hb', hc0', hd0', he0'⟩ := hr2.out.2 k hlt
      have hc := (hbel.cell (p := ⟨b, off + k * 3, none⟩) hb).trans hc0
      have hd := (hbel.cell (p := ⟨b, off + k * 3 + 1, none⟩) hb).trans hd0
      have he := (hbel.cell (p := ⟨b, off + k * 3 + 2, none⟩) hb).trans he0
      have hc' := (hbel.cell (p := ⟨b', off' + k * 3, none⟩) hb').trans hc0'
      have hd' := (hbel.cell (p := ⟨b', off' + k * 3 + 1, none⟩) hb').trans hd0'
      have he' := (hbel.cell (p := ⟨b', off' + k * 3 + 2, none⟩) hb').trans he0'
      have hbel' := Lib.hid hbel; clear hbel hc0 hd0 he0 hc0' hd0' he0'
      have hx := Lib.hid (show ((getV vs k).1 == (getV vs k).1 && (getV vs k).2.1 == (getV vs k).2.1 && (getV vs k).2.2 == (getV vs k).2.2) = true by simp)
      go_wp2_with fail
      go_region_with (go_at_call 76; refine (eqVote_any _ _ _ _ _ _ _).mono ?_; rintro e w2 ⟨rfl, hb2⟩; rw [hx.out]; have hb3 := Lib.hid (hbel'.out.trans ((show Below wr.heap.size wr w2 from ⟨hb2.os, hb2.tape, hb2.output, hb2.size, hb2.block⟩).mono hbel'.out.size)); clear hb2)
      all_goals
        go_wp2_with fail
        go_roundw
        case rel => exact ⟨k + 1, by omega, by go_num, hb3.out⟩
        case measure => simp [intOf]; omega
    · go_wp2_with fail
      go_ret
      exact ⟨rfl, hbel⟩

def vmarks (k : Int) (n : Nat) : List Vt := (List.range n).map fun (i : Nat) => (k + (i : Int) * 3, k + (i : Int) * 3 + 1, k + (i : Int) * 3 + 2)
theorem vmarks_len (k : Int) (n : Nat) : (vmarks k n).length = n := by simp [vmarks]
theorem vmarks_get {k : Int} {n i : Nat} (h : i < n) : getV (vmarks k n) i = (k + (i : Int) * 3, k + (i : Int) * 3 + 1, k + (i : Int) * 3 + 2) := by
  unfold getV; simp [vmarks, h]
theorem cells_vmarks {k : Int} {n i : Nat} (h : i < n * 3) : cellsV (vmarks k n) i = .int .i64 (k + (i : Int)) := by
  have h3 : i % 3 = 0 ∨ i % 3 = 1 ∨ i % 3 = 2 := by omega
  unfold cellsV
  rw [vmarks_get (by omega)]
  rcases h3 with e | e | e
  · rw [if_pos e]; congr 1; simp only; omega
  · rw [if_neg (by omega), if_pos e]; congr 1; simp only; omega
  · rw [if_neg (by omega), if_neg (by omega)]; congr 1; simp only; omega

set_option maxHeartbeats 800000 in
theorem markVotes_b (A : Option Addr) (n c B : Nat) (vs : List Vt) (k : Int) (w : World) (h : OwnV w B A n vs) (hn : n ≤ 1048576) (hk0 : 0 ≤ k) (hk1 : k ≤ 4294967296) :
    Calls Try.prog 27 #[.slice A n c, .int .i64 k] w fun e w' => e = .returned (.int .i64 (k + n * 3)) ∧ OwnV w' B A n (vmarks k n) ∧ Only A w w' := by
  by_cases h0 : n = 0
  · subst h0
    have hF := Lib.hid (show OwnV w B A 0 (vmarks k 0) from ⟨by simp [vmarks], fun h => absurd h (Nat.lt_irrefl _), h.low⟩)
    clear h
    go_enter Try.func27, Try.ntmps27
    go_wp2_with fail
    go_loop [1, 5] (fun a i => a = .int .i64 k ∧ i = .int .i64 0) (fun _ _ => 0)
    case atStart => exact ⟨rfl, rfl⟩
    case round =>
      obtain ⟨rfl, rfl⟩ := hrel
      go_wp2_with fail
      go_ret
      exact ⟨ret_int (by simp), hF.out, Only.refl _ _⟩
  · obtain ⟨g, m, f, rfl, hm, hr, hf⟩ := h.own (by omega)
    have hlow := Lib.hid h.low
    clear h hf
    have hr' := Lib.hid hr; clear hr
    go_enter Try.func27, Try.ntmps27
    go_wp2_with fail
    go_loopw [1, 5] (fun a i wr => ∃ j : Nat, j ≤ n ∧ i = .int .i64 j ∧ a = .int .i64 (k + j * 3) ∧ (∃ f', wr.rowIs g 53 (m * 3) f' ∧ Hid (∀ i, i < j * 3 → f' i = .int .i64 (k + (i : Int)))) ∧ Only (some ⟨g, 0, none⟩) w wr) (fun _ i _ => n - (intOf i).toNat)
    case atStart => exact ⟨0, Nat.zero_le _, rfl, by simp, ⟨f, hr'.out, Lib.hid (fun _ h => absurd h (by omega))⟩, Only.refl _ _⟩
    case round =>
      obtain ⟨j, hj, rfl, rfl, ⟨f', hrow, hf'⟩, honly⟩ := hrel
      have ho := Lib.hid honly; clear honly
      by_cases hlt : j < n
      · have c1 := hrow.cell (i := j * 3) (by omega)
        have c2 := hrow.cell (i := j * 3 + 1) (by omega)
        have c3 := hrow.cell (i := j * 3 + 2) (by omega)
        have f1 := hrow.frozen (j * 3)
        have f2 := hrow.frozen (j * 3 + 1)
        have f3 := hrow.frozen (j * 3 + 2)
        have hrow' := Lib.hid hrow; clear hrow
        go_wp2_with fail
        go_roundw
        case rel =>
          refine ⟨j + 1, by omega, by go_num, by go_num, ⟨_, ((hrow'.out.set (j * 3) _).set (j * 3 + 1) _).set (j * 3 + 2) _, Lib.hid (fun i hi => ?_)⟩, ((ho.out.set _).set _).set _⟩
          by_cases e3 : i = j * 3 + 2
          · subst e3; rw [if_pos rfl]; congr 1 <;> omega
          · rw [if_neg e3]
            by_cases e2 : i = j * 3 + 1
            · subst e2; rw [if_pos rfl]; congr 1 <;> omega
            · rw [if_neg e2]
              by_cases e1 : i = j * 3
              · subst e1; rw [if_pos rfl]; congr 1 <;> omega
              · rw [if_neg e1]; exact hf'.out i (by omega)
        case measure => simp [intOf]; omega
      · have hrow' := Lib.hid hrow; clear hrow
        go_wp2_with fail
        go_ret
        refine ⟨ret_int (by omega), ⟨vmarks_len _ _, fun _ => ⟨g, m, f', rfl, hm, hrow'.out, fun i hi => ?_⟩, fun ad e => ⟨(hlow.out ad e).1, by rw [ho.out.size]; exact (hlow.out ad e).2⟩⟩, ho.out⟩
        rw [hf'.out i (by omega), cells_vmarks hi]

set_option maxHeartbeats 800000 in
theorem heldVotes_b (A : Option Addr) (n c : Nat) (k : Int) (w : World) (h : VotesAt w w.heap.size A n (vmarks k n)) (hn : n ≤ 1048576) (hk0 : 0 ≤ k) (hk1 : k ≤ 4294967296) :
    Calls Try.prog 77 #[.slice A n c, .int .i64 k] w fun e w' => e = .returned (.int .i64 (k + n * 3)) ∧ Below w.heap.size w w' := by
  have hr := Lib.hid h; clear h
  go_enter Try.func77, Try.ntmps77
  go_wp2_with fail
  go_loop [1, 5] (fun a i => ∃ j : Nat, j ≤ n ∧ i = .int .i64 j ∧ a = .int .i64 (k + j * 3)) (fun _ i => n - (intOf i).toNat)
  case atStart => exact ⟨0, Nat.zero_le _, rfl, by simp⟩
  case round =>
    obtain ⟨j, hj, rfl, rfl⟩ := hrel
    by_cases hlt : j < n
    · obtain ⟨b, off, rfl, _, hc, hd, he⟩ := hr.out.2 j hlt
      rw [vmarks_get hlt] at hc hd he
      have e1 : ((k + (j : Int) * 3) != (k + (j : Int) * 3)) = false := by simp
      have e2 : ((k + (j : Int) * 3 + 1) != (k + (j : Int) * 3 + 1)) = false := by simp
      have e3 : ((k + (j : Int) * 3 + 2) != (k + (j : Int) * 3 + 1 + 1)) = false := by simp <;> omega
      go_wp2_with fail
      go_round
      case rel => exact ⟨j + 1, by omega, by go_num, by go_num⟩
      case measure => simp [intOf]; omega
    · go_wp2_with fail
      go_ret
      exact ⟨ret_int (by omega), Below.refl _ _⟩
end Go.Proofs.Ytlobjfipefibaaa
