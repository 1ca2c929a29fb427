/- What is proved here: the weights that the last votes of a pool give the blocks: how they are summed up, and their bounds. No conditions but the pool's validity. -/
import Derived.Test.YthiegfbdmmpabaaLatestImpl
import Derived.Test.YthiegfbdmmpabaaGhostFacts
namespace Go.Proofs.Ythiegfbdmmpabaa
open Go.RowKit

/-- The weights of n blocks after k of the votes l. -/
def wtsK (n : Nat) (ss : List Int) (l : List Vt) : Nat → List Int
  | 0 => List.replicate n 0
  | k + 1 => addI (wtsK n ss l k) (getV l k).2.2.toNat (getI ss (getV l k).1.toNat)
theorem wtsK_len (n : Nat) (ss : List Int) (l : List Vt) : ∀ k, (wtsK n ss l k).length = n := by
  intro k
  induction k with
  | zero => simp [wtsK]
  | succ k ih => simp only [wtsK]; rw [addI_len, ih]
/-- Votes of voters of ss for blocks of n. -/
def VotesOf (n m : Nat) (l : List Vt) : Prop := ∀ k, k < l.length → (∃ i : Nat, (getV l k).1 = i ∧ i < m) ∧ ∃ b : Nat, (getV l k).2.2 = b ∧ b < n
theorem wtsK_bd {n : Nat} {ss : List Int} {l : List Vt} (hv : VotesOf n ss.length l) (hb : Bds ss) (hl : l.length ≤ 60) : ∀ k, k ≤ l.length → ∀ i, 0 ≤ getI (wtsK n ss l k) i ∧ getI (wtsK n ss l k) i ≤ 1000 * k := by
  intro k
  induction k with
  | zero =>
    intro _ i
    simp only [wtsK]
    unfold getI
    rcases Nat.lt_or_ge i n with h | h
    · simp [h]
    · rw [List.getElem?_eq_none (by simpa using h)]; simp
  | succ k ih =>
    intro hk i
    obtain ⟨⟨x, hx, hxm⟩, ⟨b, hbb, hbn⟩⟩ := hv k (by omega)
    have h1 := ih (by omega) i
    have h2 := ih (by omega) b
    have h3 := hb x hxm
    have hg : getI ss x = ss[x]?.getD 0 := rfl
    simp only [wtsK]
    rw [hx, hbb, Int.toNat_natCast, Int.toNat_natCast, addI_get _ i (by rw [wtsK_len]; exact hbn)]
    have hs := ih (by omega) b
    split
    · unfold wrap64; rw [hg]; omega
    · omega

def wtsL (ts : List Blk) (ss : List Int) (vs : List Vt) : List Int := wtsK ts.length ss (latList vs) (latList vs).length
def wR (ts : List Blk) (ss : List Int) (vs : List Vt) : List Int := if poolOk ts ss vs = true then wtsL ts ss vs else []
theorem lat_of {ts : List Blk} {ss : List Int} {vs : List Vt} (h : poolOk ts ss vs = true) : VotesOf ts.length ss.length (latList vs) := by
  intro k hk
  obtain ⟨i, hi, e⟩ := latList_in (vs := vs) hk
  obtain ⟨_, h2, _⟩ := poolOk_iff.1 h
  obtain ⟨h3, ⟨b, hb, hb', _⟩, _⟩ := voteOk_iff.1 (h2 i hi)
  rw [← e]
  exact ⟨h3, b, hb, hb'⟩
theorem lat_60 {ts : List Blk} {ss : List Int} {vs : List Vt} (h : poolOk ts ss vs = true) : (latList vs).length ≤ 60 := Nat.le_trans (latList_len vs) (poolOk_iff.1 h).1.2
theorem wts_bd {ts : List Blk} {ss : List Int} {vs : List Vt} (h : poolOk ts ss vs = true) (i : Nat) : 0 ≤ getI (wtsL ts ss vs) i ∧ getI (wtsL ts ss vs) i ≤ 60000 := by
  have h1 := lat_60 h
  have := wtsK_bd (lat_of h) (bds_of_good (poolOk_iff.1 h).1.1.2) h1 (latList vs).length (Nat.le_refl _) i
  unfold wtsL
  omega
theorem wts_own {ts : List Blk} {ss : List Int} {vs : List Vt} (h : poolOk ts ss vs = true) : ownB ts (wtsL ts ss vs) = true := by
  have hl : (wtsL ts ss vs).length = ts.length := wtsK_len _ _ _ _
  refine ownB_iff.2 ⟨(poolOk_iff.1 h).1.1.1, hl, ?_⟩
  unfold allB
  rw [List.all_eq_true]
  intro x hx
  obtain ⟨i, hi, e⟩ := List.mem_iff_getElem.1 hx
  have := wts_bd h i
  unfold getI at this
  rw [List.getElem?_eq_getElem hi, Option.getD_some, e] at this
  exact inB_true this.1 (by omega)
theorem wR_len (ts : List Blk) (ss : List Int) (vs : List Vt) : (wR ts ss vs).length ≤ 100 := by
  unfold wR
  split
  · next h =>
    have := (poolOk_iff.1 h).1.1.1.few
    rw [show (wtsL ts ss vs).length = ts.length from wtsK_len _ _ _ _]; omega
  · exact Nat.zero_le _
end Go.Proofs.Ythiegfbdmmpabaa
