/- What is proved here: how a slice of blocks in memory reads as a list of pairs, and what the law's copy, comparison and marking of such slices do. No conditions. -/
import Derived.Test.YthiegfbdmmpababWalksC
import Derived.RegionTactic
import Derived.OwnWalk
import Derived.Laws.Rows
import Derived.Deep.RegionWith
namespace Go.Proofs.Ythiegfbdmmpabab
open Go.RowKit

abbrev Blk := Int × Int
def blkV (x : Blk) : Value := .agg #[.int .i64 x.1, .int .i64 x.2]
/-- The slice with the address A and n elements holds the blocks ts, in memory below B. -/
def BlksAt (w : World) (B : Nat) (A : Option Addr) (n : Nat) (ts : List Blk) : Prop :=
  ts.length = n ∧ ∀ k, k < n → ∃ b off, A = some ⟨b, off, none⟩ ∧ b < B ∧ w.cell? ⟨b, off + k * 2, none⟩ = some (.int .i64 (ts[k]?.getD (0, 0)).1) ∧ w.cell? ⟨b, off + k * 2 + 1, none⟩ = some (.int .i64 (ts[k]?.getD (0, 0)).2)

section
variable {w w' : World} {B B' n : Nat} {A : Option Addr} {ts : List Blk}
theorem BlksAt.keep (h : BlksAt w B A n ts) (hk : ∀ p : Addr, p.block < B → w'.cell? p = w.cell? p) : BlksAt w' B A n ts :=
  ⟨h.1, fun k hn => by
    obtain ⟨b, off, e, hb, hc, hd⟩ := h.2 k hn
    exact ⟨b, off, e, hb, (hk _ hb).trans hc, (hk _ hb).trans hd⟩⟩
theorem BlksAt.more (h : BlksAt w B A n ts) (hB : B ≤ B') : BlksAt w B' A n ts :=
  ⟨h.1, fun k hn => by
    obtain ⟨b, off, e, hb, hc⟩ := h.2 k hn
    exact ⟨b, off, e, by omega, hc⟩⟩
theorem BlksAt.below (h : BlksAt w B A n ts) (hb : Below B w w') : BlksAt w' B A n ts := h.keep fun _ hp => hb.cell hp
theorem BlksAt.up (h : BlksAt w w.heap.size A n ts) (hb : Below w.heap.size w w') : BlksAt w' w'.heap.size A n ts := (h.below hb).more hb.size
/-- Every address that it has lies in a block of its own size. -/
theorem BlksAt.at (h : BlksAt w B A n ts) (hn : 0 < n) : ∃ b off, A = some ⟨b, off, none⟩ ∧ b < B ∧ ∀ k, k < n → w.cell? ⟨b, off + k * 2, none⟩ = some (.int .i64 (ts[k]?.getD (0, 0)).1) ∧ w.cell? ⟨b, off + k * 2 + 1, none⟩ = some (.int .i64 (ts[k]?.getD (0, 0)).2) := by
  obtain ⟨b, off, rfl, hb, _⟩ := h.2 0 hn
  refine ⟨b, off, rfl, hb, fun k hk => ?_⟩
  obtain ⟨b', off', e, _, hc⟩ := h.2 k hk
  cases e
  exact hc
end

/-- The cells of a list of blocks, one after the other. -/
def cellsOf (ts : List Blk) (i : Nat) : Value := .int .i64 (if i % 2 = 0 then (ts[i / 2]?.getD (0, 0)).1 else (ts[i / 2]?.getD (0, 0)).2)
theorem cellsOf_fst (ts : List Blk) (k : Nat) : cellsOf ts (k * 2) = .int .i64 (ts[k]?.getD (0, 0)).1 := by
  unfold cellsOf; rw [if_pos (by omega), show k * 2 / 2 = k by omega]
theorem cellsOf_snd (ts : List Blk) (k : Nat) : cellsOf ts (k * 2 + 1) = .int .i64 (ts[k]?.getD (0, 0)).2 := by
  unfold cellsOf; rw [if_neg (by omega), show (k * 2 + 1) / 2 = k by omega]
theorem BlksAt.of_row {w : World} {B b n : Nat} {ts : List Blk} {t : TypeId} (hb : b < B) (hl : ts.length = n) (h : w.rowIs b t (n * 2) (cellsOf ts)) : BlksAt w B (some ⟨b, 0, none⟩) n ts :=
  ⟨hl, fun k hk => ⟨b, 0, rfl, hb, by rw [Nat.zero_add, h.cell (by omega), cellsOf_fst], by rw [Nat.zero_add, h.cell (by omega), cellsOf_snd]⟩⟩

def leftR (n : Nat) : Int := if n ≤ 1048576 then 1048576 - n else -1
theorem infoBlk : (Try.prog.info? 37).map (fun i => (i.zero, i.size, i.bytes)) = some (some (.agg #[.int .i64 0, .int .i64 0]), 2, 16) := by kernel_rfl
theorem make_blks (n : Nat) (hn : n ≤ 1048576) (w : World) :
    (Instr.makeSlice 23 (.int .i64 (n : Int)) (.int .i64 (n : Int))).run Try.prog w = .ok (.slice (some ⟨w.heap.size, 0, none⟩) n n) (w.alloc (.cells (madeCells #[.int .i64 0, .int .i64 0] (n * 2)) 37)) := by
  obtain ⟨i, hi, hzz⟩ := Option.map_eq_some_iff.1 infoBlk
  simp only [Prod.mk.injEq] at hzz
  obtain ⟨hz, hs, hb⟩ := hzz
  have hr := run_make w 23 37 i _ Try.underlying23 hi hz .i64 .i64 n n (by omega) (Int.le_refl _) (by rw [hb]; omega) (by omega)
  rw [hs, Int.toNat_natCast] at hr
  exact hr
theorem row_blks (w : World) (n : Nat) : (w.alloc (.cells (madeCells #[.int .i64 0, .int .i64 0] (n * 2)) 37)).rowIs w.heap.size 37 (n * 2) (fun _ => .int .i64 0) :=
  ⟨_, Go.Deep.blk_alloc_new _ _, size_madeCells _ _, fun i hi => by
    have h2 : i % 2 = 0 ∨ i % 2 = 1 := by omega
    rcases h2 with h | h <;> simp [madeCells, hi, h]⟩

def eqT (ts us : List Blk) : Bool := decide (ts = us)
theorem eqT_len {xs ys : List Blk} (h : xs.length ≠ ys.length) : eqT xs ys = false := by
  unfold eqT; simp; rintro rfl; exact h rfl
theorem eqT_no {xs ys : List Blk} {k : Nat} (h : xs[k]?.getD (0, 0) ≠ ys[k]?.getD (0, 0)) : eqT xs ys = false := by
  unfold eqT; simp; rintro rfl; exact h rfl
theorem eqT_yes {xs ys : List Blk} (hl : xs.length = ys.length) (h : ∀ j, j < xs.length → xs[j]?.getD (0, 0) = ys[j]?.getD (0, 0)) : eqT xs ys = true := by
  unfold eqT; simp
  refine List.ext_getElem hl fun i h1 h2 => ?_
  have := h i h1
  rw [List.getElem?_eq_getElem h1, List.getElem?_eq_getElem h2] at this
  simpa using this

end Go.Proofs.Ythiegfbdmmpabab
