/- What is proved here: how a slice of votes in memory reads as a list of triples, and what the law's copy, comparison and marking of such slices do. No conditions but lengths. -/
import Derived.Test.YthiegfbdmmpabaaBlocks
import Derived.Test.YthiegfbdmmpabaaLawCopy
namespace Go.Proofs.Ythiegfbdmmpabaa
open Go.RowKit

abbrev Vt := Int × Int × Int
def vtV (x : Vt) : Value := .agg #[.int .i64 x.1, .int .i64 x.2.1, .int .i64 x.2.2]
def getV (vs : List Vt) (k : Nat) : Vt := vs[k]?.getD (0, 0, 0)
/-- The slice with the address A and n elements holds the votes vs, in memory below B. -/
def VotesAt (w : World) (B : Nat) (A : Option Addr) (n : Nat) (vs : List Vt) : Prop :=
  vs.length = n ∧ ∀ k, k < n → ∃ b off, A = some ⟨b, off, none⟩ ∧ b < B ∧ w.cell? ⟨b, off + k * 3, none⟩ = some (.int .i64 (getV vs k).1) ∧ w.cell? ⟨b, off + k * 3 + 1, none⟩ = some (.int .i64 (getV vs k).2.1) ∧ w.cell? ⟨b, off + k * 3 + 2, none⟩ = some (.int .i64 (getV vs k).2.2)

section
variable {w w' : World} {B B' n : Nat} {A : Option Addr} {vs : List Vt}
theorem VotesAt.keep (h : VotesAt w B A n vs) (hk : ∀ p : Addr, p.block < B → w'.cell? p = w.cell? p) : VotesAt w' B A n vs :=
  ⟨h.1, fun k hn => by
    obtain ⟨b, off, e, hb, hc, hd, he⟩ := h.2 k hn
    exact ⟨b, off, e, hb, (hk _ hb).trans hc, (hk _ hb).trans hd, (hk _ hb).trans he⟩⟩
theorem VotesAt.more (h : VotesAt w B A n vs) (hB : B ≤ B') : VotesAt w B' A n vs :=
  ⟨h.1, fun k hn => by
    obtain ⟨b, off, e, hb, hc⟩ := h.2 k hn
    exact ⟨b, off, e, by omega, hc⟩⟩
theorem VotesAt.below (h : VotesAt w B A n vs) (hb : Below B w w') : VotesAt w' B A n vs := h.keep fun _ hp => hb.cell hp
theorem VotesAt.up (h : VotesAt w w.heap.size A n vs) (hb : Below w.heap.size w w') : VotesAt w' w'.heap.size A n vs := (h.below hb).more hb.size
theorem VotesAt.at (h : VotesAt w B A n vs) (hn : 0 < n) : ∃ b off, A = some ⟨b, off, none⟩ ∧ b < B ∧ ∀ k, k < n → w.cell? ⟨b, off + k * 3, none⟩ = some (.int .i64 (getV vs k).1) ∧ w.cell? ⟨b, off + k * 3 + 1, none⟩ = some (.int .i64 (getV vs k).2.1) ∧ w.cell? ⟨b, off + k * 3 + 2, none⟩ = some (.int .i64 (getV vs k).2.2) := by
  obtain ⟨b, off, rfl, hb, _⟩ := h.2 0 hn
  refine ⟨b, off, rfl, hb, fun k hk => ?_⟩
  obtain ⟨b', off', e, _, hc⟩ := h.2 k hk
  cases e
  exact hc
theorem VotesAt.nil : VotesAt w B A 0 [] := ⟨rfl, fun _ h => absurd h (Nat.not_lt_zero _)⟩
end

/-- The cells of a list of votes, one after the other. -/
def cellsV (vs : List Vt) (i : Nat) : Value := .int .i64 (if i % 3 = 0 then (getV vs (i / 3)).1 else if i % 3 = 1 then (getV vs (i / 3)).2.1 else (getV vs (i / 3)).2.2)
theorem cellsV_0 (vs : List Vt) (k : Nat) : cellsV vs (k * 3) = .int .i64 (getV vs k).1 := by
  unfold cellsV; rw [if_pos (by omega), show k * 3 / 3 = k by omega]
theorem cellsV_1 (vs : List Vt) (k : Nat) : cellsV vs (k * 3 + 1) = .int .i64 (getV vs k).2.1 := by
  unfold cellsV; rw [if_neg (by omega), if_pos (by omega), show (k * 3 + 1) / 3 = k by omega]
theorem cellsV_2 (vs : List Vt) (k : Nat) : cellsV vs (k * 3 + 2) = .int .i64 (getV vs k).2.2 := by
  unfold cellsV; rw [if_neg (by omega), if_neg (by omega), show (k * 3 + 2) / 3 = k by omega]
theorem VotesAt.of_row {w : World} {B b n m : Nat} {vs : List Vt} {t : TypeId} (hb : b < B) (hl : vs.length = n) (hm : n ≤ m) (h : w.rowIs b t (m * 3) (cellsV vs)) : VotesAt w B (some ⟨b, 0, none⟩) n vs :=
  ⟨hl, fun k hk => ⟨b, 0, rfl, hb, by rw [Nat.zero_add, h.cell (by omega), cellsV_0], by rw [Nat.zero_add, h.cell (by omega), cellsV_1], by rw [Nat.zero_add, h.cell (by omega), cellsV_2]⟩⟩

/-- The slice with the address A and n elements holds vs; where it is not nil it begins a block of its own, from block B on. -/
structure OwnV (w : World) (B : Nat) (A : Option Addr) (n : Nat) (vs : List Vt) : Prop where
  len : vs.length = n
  own : 0 < n → ∃ g m f, A = some ⟨g, 0, none⟩ ∧ n ≤ m ∧ w.rowIs g 63 (m * 3) f ∧ ∀ i, i < n * 3 → f i = cellsV vs i
  low : ∀ ad, A = some ad → B ≤ ad.block ∧ ad.block < w.heap.size
section
variable {w w' : World} {B B' n : Nat} {A : Option Addr} {vs : List Vt}
theorem OwnV.votes (h : OwnV w B A n vs) : VotesAt w w.heap.size A n vs :=
  ⟨h.len, fun k hk => by
    obtain ⟨g, m, f, e, hm, hr, hf⟩ := h.own (by omega)
    exact ⟨g, 0, e, hr.lt, by rw [Nat.zero_add, hr.cell (by omega), hf _ (by omega), cellsV_0], by rw [Nat.zero_add, hr.cell (by omega), hf _ (by omega), cellsV_1], by rw [Nat.zero_add, hr.cell (by omega), hf _ (by omega), cellsV_2]⟩⟩
theorem OwnV.fewer (h : OwnV w B A n vs) (hB : B' ≤ B) : OwnV w B' A n vs :=
  ⟨h.len, h.own, fun ad e => ⟨Nat.le_trans hB (h.low ad e).1, (h.low ad e).2⟩⟩
theorem OwnV.keep (h : OwnV w B A n vs) (hs : w.heap.size ≤ w'.heap.size) (hk : ∀ ad, A = some ad → w'.heap[ad.block]? = w.heap[ad.block]?) : OwnV w' B A n vs :=
  ⟨h.len, fun hn => by
    obtain ⟨g, m, f, e, hm, hr, hf⟩ := h.own hn
    exact ⟨g, m, f, e, hm, hr.of_block (hk _ e), hf⟩, fun ad e => ⟨(h.low ad e).1, Nat.lt_of_lt_of_le (h.low ad e).2 hs⟩⟩
theorem OwnV.below (h : OwnV w B A n vs) (hb : Below w.heap.size w w') : OwnV w' B A n vs :=
  h.keep hb.size (fun ad e => hb.block _ (h.low ad e).2)
theorem OwnV.drewN (h : OwnV w B A n vs) (k : Nat) : OwnV (w.drewN k) B A n vs := ⟨h.len, h.own, h.low⟩
theorem OwnV.only {A' : Option Addr} (h : OwnV w B A n vs) (ho : Only A' w w') (hd : ∀ ad ad', A = some ad → A' = some ad' → ad.block ≠ ad'.block) : OwnV w' B A n vs :=
  h.keep (by rw [ho.size]; exact Nat.le_refl _) (fun ad e => ho.block _ (fun ad' e' => hd ad ad' e e'))
theorem OwnV.nil (w : World) (B : Nat) : OwnV w B none 0 [] := ⟨rfl, fun h => absurd h (Nat.lt_irrefl _), fun _ e => by cases e⟩
theorem OwnV.of_row {g : Nat} (hl : vs.length = n) (hB : B ≤ g) (h : w.rowIs g 63 (n * 3) (cellsV vs)) : OwnV w B (some ⟨g, 0, none⟩) n vs :=
  ⟨hl, fun _ => ⟨g, n, _, rfl, Nat.le_refl _, h, fun _ _ => rfl⟩, fun ad e => by cases e; exact ⟨hB, h.lt⟩⟩
end

theorem infoVote : (Try.prog.info? 63).map (fun i => (i.zero, i.size, i.bytes)) = some (some (.agg #[.int .i64 0, .int .i64 0, .int .i64 0]), 3, 24) := by kernel_rfl
theorem make_votes (n : Nat) (hn : n ≤ 1048576) (w : World) :
    (Instr.makeSlice 53 (.int .i64 (n : Int)) (.int .i64 (n : Int))).run Try.prog w = .ok (.slice (some ⟨w.heap.size, 0, none⟩) n n) (w.alloc (.cells (madeCells #[.int .i64 0, .int .i64 0, .int .i64 0] (n * 3)) 63)) := by
  obtain ⟨i, hi, hzz⟩ := Option.map_eq_some_iff.1 infoVote
  simp only [Prod.mk.injEq] at hzz
  obtain ⟨hz, hs, hb⟩ := hzz
  have hr := run_make w 53 63 i _ Try.underlying53 hi hz .i64 .i64 n n (by omega) (Int.le_refl _) (by rw [hb]; omega) (by omega)
  rw [hs, Int.toNat_natCast] at hr
  exact hr
theorem row_votes (w : World) (n : Nat) : (w.alloc (.cells (madeCells #[.int .i64 0, .int .i64 0, .int .i64 0] (n * 3)) 63)).rowIs w.heap.size 63 (n * 3) (fun _ => .int .i64 0) :=
  ⟨_, Go.Deep.blk_alloc_new _ _, size_madeCells _ _, fun i hi => by
    have h2 : i % 3 = 0 ∨ i % 3 = 1 ∨ i % 3 = 2 := by omega
    rcases h2 with h | h | h <;> simp [madeCells, hi, h]⟩

def vmarks (k : Int) (n : Nat) : List Vt := (List.range n).map fun (i : Nat) => (k + (i : Int) * 3, k + (i : Int) * 3 + 1, k + (i : Int) * 3 + 2)
theorem vmarks_len (k : Int) (n : Nat) : (vmarks k n).length = n := by simp [vmarks]
theorem vmarks_get {k : Int} {n i : Nat} (h : i < n) : getV (vmarks k n) i = (k + (i : Int) * 3, k + (i : Int) * 3 + 1, k + (i : Int) * 3 + 2) := by
  unfold getV; simp [vmarks, h]
theorem cells_vmarks {k : Int} {n i : Nat} (h : i < n * 3) : cellsV (vmarks k n) i = .int .i64 (k + (i : Int)) := by
  have h3 : i % 3 = 0 ∨ i % 3 = 1 ∨ i % 3 = 2 := by omega
  unfold cellsV
  rw [vmarks_get (by omega)]
  rcases h3 with e | e | e
  · rw [if_pos e]; congr 1; simp only; omega
  · rw [if_neg (by omega), if_pos e]; congr 1; simp only; omega
  · rw [if_neg (by omega), if_neg (by omega)]; congr 1; simp only; omega

end Go.Proofs.Ythiegfbdmmpabaa
