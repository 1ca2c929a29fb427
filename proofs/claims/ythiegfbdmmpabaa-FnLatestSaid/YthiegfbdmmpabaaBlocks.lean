/- What is proved here: how a slice of blocks in memory reads as a list of pairs, and what the law's copy, comparison and marking of such slices do. No conditions. -/
import Derived.Test.YthiegfbdmmpabaaWalksC
import Derived.RegionTactic
import Derived.OwnWalk
import Derived.Laws.Rows
import Derived.Deep.RegionWith
namespace Go.Proofs.Ythiegfbdmmpabaa
open Go.RowKit

abbrev Blk := Int × Int
def blkV (x : Blk) : Value := .agg #[.int .i64 x.1, .int .i64 x.2]
/-- The slice with the address A and n elements holds the blocks ts, in memory below B. -/
def BlksAt (w : World) (B : Nat) (A : Option Addr) (n : Nat) (ts : List Blk) : Prop :=
  ts.length = n ∧ ∀ k, k < n → ∃ b off, A = some ⟨b, off, none⟩ ∧ b < B ∧ w.cell? ⟨b, off + k * 2, none⟩ = some (.int .i64 (ts[k]?.getD (0, 0)).1) ∧ w.cell? ⟨b, off + k * 2 + 1, none⟩ = some (.int .i64 (ts[k]?.getD (0, 0)).2)

section
variable {w w' : World} {B B' n : Nat} {A : Option Addr} {ts : List Blk}
theorem BlksAt.keep (h : BlksAt w B A n ts) (hk : ∀ p : Addr, p.block < B → w'.cell? p = w.cell? p) : BlksAt w' B A n ts :=
  ⟨h.1, fun k hn => by
    obtain ⟨b, off, e, hb, hc, hd⟩ := h.2 k hn
    exact ⟨b, off, e, hb, (hk _ hb).trans hc, (hk _ hb).trans hd⟩⟩
theorem BlksAt.more (h : BlksAt w B A n ts) (hB : B ≤ B') : BlksAt w B' A n ts :=
  ⟨h.1, fun k hn => by
    obtain ⟨b, off, e, hb, hc⟩ := h.2 k hn
    exact ⟨b, off, e, by omega, hc⟩⟩
theorem BlksAt.below (h : BlksAt w B A n ts) (hb : Below B w w') : BlksAt w' B A n ts := h.keep fun _ hp => hb.cell hp
theorem BlksAt.up (h : BlksAt w w.heap.size A n ts) (hb : Below w.heap.size w w') : BlksAt w' w'.heap.size A n ts := (h.below hb).more hb.size
/-- Every address that it has lies in a block of its own size. -/
theorem BlksAt.at (h : BlksAt w B A n ts) (hn : 0 < n) : ∃ b off, A = some ⟨b, off, none⟩ ∧ b < B ∧ ∀ k, k < n → w.cell? ⟨b, off + k * 2, none⟩ = some (.int .i64 (ts[k]?.getD (0, 0)).1) ∧ w.cell? ⟨b, off + k * 2 + 1, none⟩ = some (.int .i64 (ts[k]?.getD (0, 0)).2) := by
  obtain ⟨b, off, rfl, hb, _⟩ := h.2 0 hn
  refine ⟨b, off, rfl, hb, fun k hk => ?_⟩
  obtain ⟨b', off', e, _, hc⟩ := h.2 k hk
  cases e
  exact hc
end

/-- The cells of a list of blocks, one after the other. -/
def cellsOf (ts : List Blk) (i : Nat) : Value := .int .i64 (if i % 2 = 0 then (ts[i / 2]?.getD (0, 0)).1 else (ts[i / 2]?.getD (0, 0)).2)
theorem cellsOf_fst (ts : List Blk) (k : Nat) : cellsOf ts (k * 2) = .int .i64 (ts[k]?.getD (0, 0)).1 := by
  unfold cellsOf; rw [if_pos (by omega), show k * 2 / 2 = k by omega]
theorem cellsOf_snd (ts : List Blk) (k : Nat) : cellsOf ts (k * 2 + 1) = .int .i64 (ts[k]?.getD (0, 0)).2 := by
  unfold cellsOf; rw [if_neg (by omega), show (k * 2 + 1) / 2 = k by omega]
theorem BlksAt.of_row {w : World} {B b n : Nat} {ts : List Blk} {t : TypeId} (hb : b < B) (hl : ts.length = n) (h : w.rowIs b t (n * 2) (cellsOf ts)) : BlksAt w B (some ⟨b, 0, none⟩) n ts :=
  ⟨hl, fun k hk => ⟨b, 0, rfl, hb, by rw [Nat.zero_add, h.cell (by omega), cellsOf_fst], by rw [Nat.zero_add, h.cell (by omega), cellsOf_snd]⟩⟩

theorem toBlock_any (p s : Int) (w : World) :
    Calls Try.prog 82 #[.agg #[.int .i64 p, .int .i64 s]] w fun e w' => e = .returned (.agg #[.int .i64 p, .int .i64 s]) ∧ Below w.heap.size w w' := by
  have hb : ∀ a b c : Obj, Below w.heap.size w (((w.alloc a).alloc b).alloc c) := fun a b c => (((Below.refl _ w).alloc (Nat.le_refl _) a).alloc (by simp) b).alloc (by simp; omega) c
  have hB := Lib.hid hb; clear hb
  go_enter Try.func82, Try.ntmps82
  go_wp2
  refine bodyPost_ret (results_cell_row rfl _ _ (w.heap.size + 1) 97 #[.int .i64 p, .int .i64 s] (0, 0) _ rfl ?_ Try.underlying97 rfl (by kernel_rfl)) rfl ?_
  · rw [Below.heap_alloc _ _ _ (by simp)]
    exact heap_alloc2_new _ _ _
  · exact ⟨rfl, hB.out _ _ _⟩
theorem eqBlock_any (p s p' s' : Int) (w : World) :
    Calls Try.prog 86 #[.agg #[.int .i64 p, .int .i64 s], .agg #[.int .i64 p', .int .i64 s']] w fun e w' => e = .returned (.bool (p == p' && s == s')) ∧ Below w.heap.size w w' := by
  have hb : ∀ a b : Obj, Below w.heap.size w ((w.alloc a).alloc b) := fun a b => ((Below.refl _ w).alloc (Nat.le_refl _) a).alloc (by simp) b
  have hB := Lib.hid hb; clear hb
  cases h1 : (p != p')
  · have e1 := Lib.hid (show (p == p') = true by simpa using h1)
    cases h2 : (s != s')
    · have e2 := Lib.hid (show (s == s') = true by simpa using h2)
      go_enter Try.func86, Try.ntmps86
      go_wp2
      go_ret
      exact ⟨ret_bool (by rw [e1.out, e2.out]; rfl), hB.out _ _⟩
    · have e2 := Lib.hid (show (s == s') = false by simpa using h2)
      go_enter Try.func86, Try.ntmps86
      go_wp2
      go_ret
      exact ⟨ret_bool (by rw [e2.out]; simp), hB.out _ _⟩
  · have e1 := Lib.hid (show (p == p') = false by simpa using h1)
    go_enter Try.func86, Try.ntmps86
    go_wp2
    go_ret
    exact ⟨ret_bool (by rw [e1.out]; simp), hB.out _ _⟩

def leftR (n : Nat) : Int := if n ≤ 1048576 then 1048576 - n else -1
theorem szBlockS_any (A : Option Addr) (n c : Nat) (w : World) (hn : n ≤ 140737488351232) :
    Calls Try.prog 14 #[.slice A n c, .int .i64 1048576] w fun e w' => e = .returned (.int .i64 (leftR n)) ∧ w = w' := by
  by_cases h : n ≤ 1048576
  · have hr := Lib.hid (show leftR n = 1048576 - n by unfold leftR; rw [if_pos h])
    go_enter Try.func14, Try.ntmps14
    go_wp2
    go_ret
    exact ⟨ret_int hr.out.symm, rfl⟩
  · have hr := Lib.hid (show leftR n = -1 by unfold leftR; rw [if_neg h])
    have h' : 1048576 < n := by omega
    go_enter Try.func14, Try.ntmps14
    go_wp2
    go_ret
    exact ⟨ret_int hr.out.symm, rfl⟩

theorem infoBlk : (Try.prog.info? 97).map (fun i => (i.zero, i.size, i.bytes)) = some (some (.agg #[.int .i64 0, .int .i64 0]), 2, 16) := by kernel_rfl
theorem make_blks (n : Nat) (hn : n ≤ 1048576) (w : World) :
    (Instr.makeSlice 28 (.int .i64 (n : Int)) (.int .i64 (n : Int))).run Try.prog w = .ok (.slice (some ⟨w.heap.size, 0, none⟩) n n) (w.alloc (.cells (madeCells #[.int .i64 0, .int .i64 0] (n * 2)) 97)) := by
  obtain ⟨i, hi, hzz⟩ := Option.map_eq_some_iff.1 infoBlk
  simp only [Prod.mk.injEq] at hzz
  obtain ⟨hz, hs, hb⟩ := hzz
  have hr := run_make w 28 97 i _ Try.underlying28 hi hz .i64 .i64 n n (by omega) (Int.le_refl _) (by rw [hb]; omega) (by omega)
  rw [hs, Int.toNat_natCast] at hr
  exact hr
theorem row_blks (w : World) (n : Nat) : (w.alloc (.cells (madeCells #[.int .i64 0, .int .i64 0] (n * 2)) 97)).rowIs w.heap.size 97 (n * 2) (fun _ => .int .i64 0) :=
  ⟨_, Go.Deep.blk_alloc_new _ _, size_madeCells _ _, fun i hi => by
    have h2 : i % 2 = 0 ∨ i % 2 = 1 := by omega
    rcases h2 with h | h <;> simp [madeCells, hi, h]⟩

set_option maxHeartbeats 400000 in
theorem toBlockS_any (A : Option Addr) (n c : Nat) (ts : List Blk) (w : World) (h : BlksAt w w.heap.size A n ts) (hn : n ≤ 1048576) :
    Calls Try.prog 17 #[.slice A n c] w fun e w' => e = .returned (.slice (some ⟨w.heap.size, 0, none⟩) n n) ∧
      w'.rowIs w.heap.size 97 (n * 2) (cellsOf ts) ∧ Below w.heap.size w w' ∧ w.heap.size < w'.heap.size := by
  have hl' := Lib.hid h.1
  have hr := Lib.hid h; clear h
  have hmk := fun W => make_blks n hn W
  go_enter Try.func17, Try.ntmps17
  go_wp2_with fail
  go_loopw [4] (fun i wr => ∃ k : Nat, k ≤ n ∧ i = .int .i64 k ∧ wr.rowIs w.heap.size 97 (n * 2) (fun j => if j < k * 2 then cellsOf ts j else .int .i64 0) ∧ Below w.heap.size w wr ∧ w.heap.size < wr.heap.size) (fun i _ => n - (intOf i).toNat)
  case atStart => exact ⟨0, Nat.zero_le _, rfl, (row_blks w n).congr (by intro i hi; simp), (Below.refl _ _).alloc (Nat.le_refl _) _, by simp⟩
  case round =>
    obtain ⟨k, hk, rfl, hrow, hbel, hsz⟩ := hrel
    by_cases hlt : k < n
    · obtain ⟨b, off, rfl, hb, hc0, hd0⟩ := hr.out.2 k hlt
      have hc := (hbel.cell (p := ⟨b, off + k * 2, none⟩) hb).trans hc0
      have hd := (hbel.cell (p := ⟨b, off + k * 2 + 1, none⟩) hb).trans hd0
      have hrow' := Lib.hid hrow; clear hrow hc0 hd0
      have hbel' := Lib.hid hbel; clear hbel
      go_wp2_with fail
      refine (toBlock_any _ _ _).mono ?_
      rintro e w2 ⟨rfl, hb2⟩
      have hrow2 := rowIs_below hrow'.out hb2 (by omega)
      have hs2 := hb2.size
      have c1 := hrow2.cell (i := k * 2) (by omega)
      have c2 := hrow2.cell (i := k * 2 + 1) (by omega)
      have f1 := hrow2.frozen (k * 2)
      have f2 := hrow2.frozen (k * 2 + 1)
      have hrow3 := Lib.hid hrow2
      have hbel2 := Lib.hid (hbel'.out.trans (hb2.mono (Nat.le_of_lt hsz)))
      clear hrow2 hb2
      go_wp2_with fail
      go_roundw
      case rel =>
        refine ⟨k + 1, by omega, by go_num, ((hrow3.out.set (k * 2) _).set (k * 2 + 1) _).congr ?_, (hbel2.out.setCell (by simp) _).setCell (by simp) _, by simp; omega⟩
        intro j hj
        by_cases e2 : j = k * 2 + 1
        · subst e2; rw [if_pos rfl, if_pos (by omega), cellsOf_snd]
        · rw [if_neg e2]
          by_cases e1 : j = k * 2
          · subst e1; rw [if_pos rfl, if_pos (by omega), cellsOf_fst]
          · rw [if_neg e1]
            by_cases e3 : j < k * 2
            · rw [if_pos e3, if_pos (by omega)]
            · rw [if_neg e3, if_neg (by omega)]
      case measure => simp [intOf]; omega
    · have hrow' := Lib.hid hrow; clear hrow
      go_wp2_with fail
      go_ret
      exact ⟨rfl, hrow'.out.congr (by intro j hj; simp [show j < k * 2 by omega]), hbel, hsz⟩

def eqT (ts us : List Blk) : Bool := decide (ts = us)
theorem eqT_len {xs ys : List Blk} (h : xs.length ≠ ys.length) : eqT xs ys = false := by
  unfold eqT; simp; rintro rfl; exact h rfl
theorem eqT_no {xs ys : List Blk} {k : Nat} (h : xs[k]?.getD (0, 0) ≠ ys[k]?.getD (0, 0)) : eqT xs ys = false := by
  unfold eqT; simp; rintro rfl; exact h rfl
theorem eqT_yes {xs ys : List Blk} (hl : xs.length = ys.length) (h : ∀ j, j < xs.length → xs[j]?.getD (0, 0) = ys[j]?.getD (0, 0)) : eqT xs ys = true := by
  unfold eqT; simp
  refine List.ext_getElem hl fun i h1 h2 => ?_
  have := h i h1
  rw [List.getElem?_eq_getElem h1, List.getElem?_eq_getElem h2] at this
  simpa using this

set_option maxHeartbeats 400000 in
theorem eqBlockS_any (A A' : Option Addr) (n n' c c' : Nat) (ts us : List Blk) (w : World) (h : BlksAt w w.heap.size A n ts) (h' : BlksAt w w.heap.size A' n' us) (hn : n ≤ 1048576) (hn' : n' ≤ 1048576) :
    Calls Try.prog 21 #[.slice A n c, .slice A' n' c'] w fun e w' => e = .returned (.bool (eqT ts us)) ∧ Below w.heap.size w w' := by
  have hl' := Lib.hid h.1
  have hr := Lib.hid h; clear h
  have hl2' := Lib.hid h'.1
  have hr2 := Lib.hid h'; clear h'
  by_cases he : n = n'
  · subst he
    have hne : ((n : Int) != (n : Int)) = false := by simp
    go_enter Try.func21, Try.ntmps21
    go_wp2_with fail
    go_loopw [5] (fun i wr => ∃ k : Nat, k ≤ n ∧ i = .int .i64 k ∧ Hid (∀ j, j < k → ts[j]?.getD (0, 0) = us[j]?.getD (0, 0)) ∧ Below w.heap.size w wr) (fun i _ => n - (intOf i).toNat)
    case atStart => exact ⟨0, Nat.zero_le _, rfl, Lib.hid (fun j hj => absurd hj (Nat.not_lt_zero _)), Below.refl _ _⟩
    case round =>
      obtain ⟨k, hk, rfl, hall, hbel⟩ := hrel
      by_cases hlt : k < n
      · obtain ⟨b, off, rfl, hb, hc0, hd0⟩ := hr.out.2 k hlt
        obtain ⟨b', off', rfl, hb', hc0', hd0'⟩ := hr2.out.2 k hlt
        have hc := (hbel.cell (p := ⟨b, off + k * 2, none⟩) hb).trans hc0
        have hd := (hbel.cell (p := ⟨b, off + k * 2 + 1, none⟩) hb).trans hd0
        have hc' := (hbel.cell (p := ⟨b', off' + k * 2, none⟩) hb').trans hc0'
        have hd' := (hbel.cell (p := ⟨b', off' + k * 2 + 1, none⟩) hb').trans hd0'
        have hbel' := Lib.hid hbel; clear hbel hc0 hd0 hc0' hd0'
        cases hx : ((ts[k]?.getD (0, 0)).1 == (us[k]?.getD (0, 0)).1 && (ts[k]?.getD (0, 0)).2 == (us[k]?.getD (0, 0)).2)
        · have hx' := Lib.hid hx; clear hx
          go_wp2_with fail
          go_region_with (go_at_call 86; refine (eqBlock_any _ _ _ _ _).mono ?_; rintro e w2 ⟨rfl, hb2⟩; rw [hx'.out]; have hb3 := Lib.hid (hbel'.out.trans ((show Below wr.heap.size wr w2 from ⟨hb2.os, hb2.tape, hb2.output, hb2.size, hb2.block⟩).mono hbel'.out.size)); clear hb2)
          all_goals
            go_wp2_with fail
            go_ret
            refine ⟨ret_bool (eqT_no (k := k) ?_).symm, hb3.out⟩
            intro hq
            have := hx'.out
            rw [hq] at this
            simp at this
        · have hx' := Lib.hid hx; clear hx
          go_wp2_with fail
          go_region_with (go_at_call 86; refine (eqBlock_any _ _ _ _ _).mono ?_; rintro e w2 ⟨rfl, hb2⟩; rw [hx'.out]; have hb3 := Lib.hid (hbel'.out.trans ((show Below wr.heap.size wr w2 from ⟨hb2.os, hb2.tape, hb2.output, hb2.size, hb2.block⟩).mono hbel'.out.size)); clear hb2)
          all_goals
            go_wp2_with fail
            go_roundw
            case rel =>
              refine ⟨k + 1, by omega, by go_num, Lib.hid (fun j hj => ?_), hb3.out⟩
              by_cases e : j = k
              · subst e
                have := hx'.out
                simp only [Bool.and_eq_true, beq_iff_eq] at this
                exact Prod.ext this.1 this.2
              · exact hall.out j (by omega)
            case measure => simp [intOf]; omega
      · go_wp2_with fail
        go_ret
        exact ⟨ret_bool (eqT_yes (by rw [hl'.out, hl2'.out]) (fun j hj => hall.out j (by rw [hl'.out] at hj; omega))).symm, hbel⟩
  · have hne : ((n : Int) != (n' : Int)) = true := by simp; omega
    have hq := Lib.hid (eqT_len (xs := ts) (ys := us) (by rw [hl'.out, hl2'.out]; exact he))
    go_enter Try.func21, Try.ntmps21
    go_wp2_with fail
    go_ret
    exact ⟨ret_bool hq.out.symm, Below.refl _ _⟩

/-- The slice with the address A and n elements is a row of blocks of a call's own, from block B on. -/
theorem markBlk_any (g n c : Nat) (f : Nat → Value) (w : World) (h : w.rowIs g 97 (n * 2) f) (hn : n ≤ 1048576) :
    Calls Try.prog 26 #[.slice (some ⟨g, 0, none⟩) n c, .int .i64 1] w fun e w' => e = .returned (.int .i64 (1 + n * 2)) ∧ (w'.os = w.os ∧ w'.tape = w.tape ∧ w'.output = w.output ∧ w'.heap.size = w.heap.size ∧ ∀ k, k ≠ g → w'.heap[k]? = w.heap[k]?) := by
  have hr' := Lib.hid h; clear h
  go_enter Try.func26, Try.ntmps26
  go_wp2_with fail
  go_loopw [1, 5] (fun a i wr => ∃ j : Nat, j ≤ n ∧ i = .int .i64 j ∧ a = .int .i64 (1 + j * 2) ∧ (∃ f', wr.rowIs g 97 (n * 2) f') ∧ (wr.os = w.os ∧ wr.tape = w.tape ∧ wr.output = w.output ∧ wr.heap.size = w.heap.size ∧ ∀ k, k ≠ g → wr.heap[k]? = w.heap[k]?)) (fun _ i _ => n - (intOf i).toNat)
  case atStart => exact ⟨0, Nat.zero_le _, rfl, by simp, ⟨f, hr'.out⟩, rfl, rfl, rfl, rfl, fun _ _ => rfl⟩
  case round =>
    obtain ⟨j, hj, rfl, rfl, ⟨f', hrow⟩, hon⟩ := hrel
    have ho := Lib.hid hon; clear hon
    by_cases hlt : j < n
    · have c1 := hrow.cell (i := j * 2) (by omega)
      have c2 := hrow.cell (i := j * 2 + 1) (by omega)
      have f1 := hrow.frozen (j * 2)
      have f2 := hrow.frozen (j * 2 + 1)
      have hrow' := Lib.hid hrow; clear hrow
      go_wp2_with fail
      go_roundw
      case rel =>
        obtain ⟨o1, o2, o3, o4, o5⟩ := ho.out
        refine ⟨j + 1, by omega, by go_num, by go_num, ⟨_, (hrow'.out.set (j * 2) _).set (j * 2 + 1) _⟩, o1, o2, o3, by simpa [World.setCell] using o4, fun k hk => ?_⟩
        exact (Below.heap_setCell _ _ _ k hk).trans ((Below.heap_setCell _ _ _ k hk).trans (o5 k hk))
      case measure => simp [intOf]; omega
    · clear hrow
      go_wp2_with fail
      go_ret
      exact ⟨ret_int (by omega), ho.out⟩
end Go.Proofs.Ythiegfbdmmpabaa
