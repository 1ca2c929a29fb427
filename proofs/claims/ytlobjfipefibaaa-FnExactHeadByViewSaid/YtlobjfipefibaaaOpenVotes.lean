/- What is proved here: a slice of votes that can be read as data holds a list of triples. No conditions. -/
import Derived.Test.YtlobjfipefibaaaVotes
import Derived.Deep.Strs
import Derived.Deep.SlicePairs
namespace Go.Proofs.Ytlobjfipefibaaa
open Go.ChangeShapes Go.WideShapes Go.RowKit

theorem list3 {α : Type} {l : List α} (h : l.length = 3) : ∃ a b c, l = [a, b, c] := by
  cases l with
  | nil => cases h
  | cons a l =>
    cases l with
    | nil => cases h
    | cons b l =>
      cases l with
      | nil => cases h
      | cons c l =>
        cases l with
        | nil => exact ⟨a, b, c, rfl⟩
        | cons d l => simp at h

set_option maxRecDepth 100000 in
theorem open_votes {H : Type} {enc : TypeId × Value → H} {W : World} {fuel : Nat} {u : Value} {y : DataW H × List MemPlace} (h : DataW.trod enc Try.prog W 0 (fun _ => true) true fuel 24 [u] = some y) :
    ∃ a len cap vs, u = .slice a len cap ∧ VotesAt W W.heap.size a len vs ∧ len ≤ 9223372036854775807 := by
  rcases Go.Deep.open_slice Try.underlying24 h with ⟨hcs, _⟩ | ⟨a, len, cap, m, n, D, Pl, hcs, _, hl, hm, hmm, _, hx⟩
  · injection hcs with hcs _
    subst hcs
    exact ⟨none, 0, 0, [], rfl, VotesAt.nil, Nat.zero_le _⟩
  · injection hcs with hcs _
    subst hcs
    have hmc : m = cap := by simpa using hmm
    have c3 : Try.prog.cellsOf 3 = 1 := by kernel_rfl
    have each : ∀ i, i < m → ∃ q : Vt, W.cell? (a.add (i * 3)) = some (.int .i64 q.1) ∧ W.cell? (a.add (i * 3 + 1)) = some (.int .i64 q.2.1) ∧ W.cell? (a.add (i * 3 + 2)) = some (.int .i64 q.2.2) := by
      intro i hi
      obtain ⟨cs', h1, h2⟩ := hx i hi
      rw [show Try.prog.cellsOf 48 = 3 from by kernel_rfl] at h1
      obtain ⟨_, hlen, hcell⟩ := World.cells?_some h1
      obtain ⟨y0, y1, y2, k, _, _, g0, g1, g2⟩ := Go.Deep.trod_struct3 Try.underlying48 h2
      obtain ⟨v0, v1, v2, rfl⟩ := list3 hlen
      · skip
        simp [c3] at g0 g1 g2
        have e0 := hcell 0 (by omega)
        have e1 := hcell 1 (by omega)
        have e2 := hcell 2 (by omega)
        rw [Go.Deep.add_add] at e0 e1 e2
        obtain ⟨x0, hx0, _⟩ := DataW.trod_int Try.underlying3 g0
        obtain ⟨x1, hx1, _⟩ := DataW.trod_int Try.underlying3 g1
        obtain ⟨x2, hx2, _⟩ := DataW.trod_int Try.underlying3 g2
        have k0 : v0 = .int .i64 x0 := by simpa using hx0
        have k1 : v1 = .int .i64 x1 := by simpa using hx1
        have k2 : v2 = .int .i64 x2 := by simpa using hx2
        subst k0; subst k1; subst k2
        exact ⟨(x0, x1, x2), by simpa using e0, by simpa using e1, by simpa using e2⟩
    obtain ⟨q, hq⟩ := Go.Deep.choose_lt each
    refine ⟨some a, len, cap, (List.range len).map q, rfl, ⟨by simp, fun i hi => ?_⟩, by unfold maxLen at hm; omega⟩
    obtain ⟨hc0, hc1, hc2⟩ := hq i (by omega)
    obtain ⟨b, off, spot⟩ := a
    have hs : spot = none := by simpa [Addr.add] using World.cell?_spot (hq 0 (by omega)).1
    subst hs
    have hb := World.block_lt_of_cell? W _ hc0
    have e0 : (⟨b, off, none⟩ : Addr).add (i * 3) = ⟨b, off + i * 3, none⟩ := by
      unfold Addr.add; by_cases e : i * 3 = 0 <;> simp [e]
    have e1 : (⟨b, off, none⟩ : Addr).add (i * 3 + 1) = ⟨b, off + i * 3 + 1, none⟩ := by
      unfold Addr.add; simp [Nat.add_assoc]
    have e2 : (⟨b, off, none⟩ : Addr).add (i * 3 + 2) = ⟨b, off + i * 3 + 2, none⟩ := by
      unfold Addr.add; simp [Nat.add_assoc]
    rw [e0] at hc0 hb
    rw [e1] at hc1
    rw [e2] at hc2
    have hg : getV ((List.range len).map q) i = q i := by unfold getV; simp [hi]
    rw [hg]
    exact ⟨b, off, rfl, hb, hc0, hc1, hc2⟩
end Go.Proofs.Ytlobjfipefibaaa
