/- What is proved here: what the program's LeastShared returns, at every slice of integers. No conditions but that the table of bits holds what its text lays. -/
import Derived.Test.YtpopefopmbmgaaaDoorLeast
namespace Go.Proofs.YtpopefopmbmgaaaDoor
open Go.RowKit

def LsPost (w : World) (s : List Int) (e : Ending) (w' : World) : Prop :=
  ∃ v : Int, e = .returned (.tuple #[.int .i64 v, .bool (goodB s)]) ∧ (goodB s = true → IsLeast s v) ∧ (goodB s = false → v = 0) ∧ Below w.heap.size w w'

/-- After the first i quorums: least is shared by two, and no more than any of the first i shares with one from it on. -/
def Outer (s : List Int) (q : List Nat) (i : Nat) (v : Int) : Prop := InP s v ∧ ∀ a b, a < i → a ≤ b → b < q.length → v ≤ gw s (q[a]?.getD 0 &&& q[b]?.getD 0)
def Inner (s : List Int) (q : List Nat) (i j : Nat) (v : Int) : Prop := Outer s q i v ∧ ∀ b, i ≤ b → b < i + j → v ≤ gw s (q[i]?.getD 0 &&& q[b]?.getD 0)

theorem inner_step {s : List Int} {q : List Nat} {k j : Nat} {y : Int} (hk : k < q.length) (hj : k + j < q.length) (hq : ∀ i, i < q.length → q[i]?.getD 0 < bitN s.length ∧ gq s (q[i]?.getD 0) = true) (h : Inner s q k j y) :
    Inner s q k (j + 1) (if gw s (q[k]?.getD 0 &&& q[k + j]?.getD 0) < y then gw s (q[k]?.getD 0 &&& q[k + j]?.getD 0) else y) := by
  have hu : InP s (gw s (q[k]?.getD 0 &&& q[k + j]?.getD 0)) := ⟨_, _, (hq k hk).1, (hq _ hj).1, (hq k hk).2, (hq _ hj).2, rfl⟩
  obtain ⟨⟨h1, h2⟩, h3⟩ := h
  by_cases hlt : gw s (q[k]?.getD 0 &&& q[k + j]?.getD 0) < y
  · rw [if_pos hlt]
    refine ⟨⟨hu, fun a b ha hab hb => ?_⟩, fun b hb1 hb2 => ?_⟩
    · have := h2 a b ha hab hb; omega
    · by_cases e : b = k + j
      · subst e; exact Int.le_refl _
      · have := h3 b hb1 (by omega); omega
  · rw [if_neg hlt]
    refine ⟨⟨h1, h2⟩, fun b hb1 hb2 => ?_⟩
    by_cases e : b = k + j
    · subst e; omega
    · exact h3 b hb1 (by omega)
theorem inner_end {s : List Int} {q : List Nat} {k j : Nat} {y : Int} (hj : q.length ≤ k + j) (h : Inner s q k j y) : Outer s q (k + 1) y := by
  obtain ⟨⟨h1, h2⟩, h3⟩ := h
  refine ⟨h1, fun a b ha hab hb => ?_⟩
  by_cases e : a = k
  · subst e; exact h3 b hab (by omega)
  · exact h2 a b (by omega) hab hb
theorem outer_end {s : List Int} {q : List Nat} {k : Nat} {x : Int} (hk : q.length ≤ k) (hq : q = qsTo s (bitN s.length)) (h : Outer s q k x) : IsLeast s x := by
  refine ⟨h.1, fun a b ha hb qa qb => ?_⟩
  have ma : a ∈ q := by rw [hq]; exact qsTo_mem.2 ⟨ha, qa⟩
  have mb : b ∈ q := by rw [hq]; exact qsTo_mem.2 ⟨hb, qb⟩
  obtain ⟨i, hi, ei⟩ := List.getElem_of_mem ma
  obtain ⟨j, hj, ej⟩ := List.getElem_of_mem mb
  have gi : q[i]?.getD 0 = a := by rw [List.getElem?_eq_getElem hi]; exact ei
  have gj : q[j]?.getD 0 = b := by rw [List.getElem?_eq_getElem hj]; exact ej
  rcases Nat.le_total i j with hij | hij
  · have := h.2 i j (by omega) hij hj
    rwa [gi, gj] at this
  · have := h.2 j i (by omega) hij hi
    rwa [gi, gj, Nat.and_comm] at this

set_option maxHeartbeats 3200000 in
set_option maxRecDepth 100000 in
theorem implLeast_any (A : Option Addr) (n c : Nat) (s : List Int) (w : World) (h : IntsAt w w.heap.size A n s) (hn : n ≤ 1048576) (ht : TabOk w) :
    Calls Tryd.prog 22 #[.slice A n c] w (LsPost w s) := by
  cases hg : goodB s
  · have hf := Lib.hid (show LsPost w s (.returned (.tuple #[.int .i64 0, .bool false])) w from
      ⟨0, by rw [hg], (by rw [hg]; intro h; cases h), fun _ => rfl, Below.refl _ _⟩)
    go_enter Tryd.func22, Tryd.ntmps22
    go_wp2_with (go_at_call 15; refine (implGood_any _ _ _ w.heap.size s _ h hn).mono ?_; rintro e w' ⟨rfl, rfl⟩)
    go_ret2
    exact hf.out
  · have hl := Lib.hid h.1
    have hbd := Lib.hid (bds_of_good hg)
    have hn10 : n ≤ 10 := by have := (goodB_iff.1 hg).1.2; rw [hl.out] at this; omega
    have hN := bitN_ten hn10
    have hNp := bitN_pos n
    have hN2 : bitN n ≤ 1048576 := by omega
    go_enter Tryd.func22, Tryd.ntmps22
    go_wp2_with fail
    refine (implGood_any _ _ _ w.heap.size s _ h hn).mono ?_
    rintro e w' ⟨rfl, rfl⟩
    go_wp2_with fail
    refine (groupWeights_any A n c s _ h hn10 hbd.out ht).mono ?_
    rintro e w1 ⟨rfl, r1, b1, s1⟩
    have i1 : IntsAt w1 w1.heap.size (some ⟨w.heap.size, 0, none⟩) (bitN n) (gwL s) :=
      IntsAt.of_row (Nat.le_refl _) s1 (by rw [gwL_len, hl.out]) (r1.congr (fun i hi => by rw [gwL_get (by rw [hl.out]; exact hi)]))
    have hW : ∀ k, k < (gwL s).length → 0 ≤ (gwL s)[k]?.getD 0 ∧ (gwL s)[k]?.getD 0 ≤ 1048576 := fun k hk => by
      rw [gwL_len] at hk
      rw [gwL_get hk]
      have := wt_bd (m := k) hbd.out (Nat.le_refl s.length)
      rw [hl.out] at this
      unfold gw
      rw [hl.out]
      omega
    have hW' := Lib.hid hW; clear hW
    go_wp2_with fail
    refine (quorumMasks_cap _ _ _ (gwL s) _ i1 hNp hN2 hW'.out).mono ?_
    rintro e w2 ⟨A2, n2, c2, rfl, o2, b2, hc2, hc2m⟩
    unfold maxLen at hc2m
    rw [show qmN (gwL s) (bitN n) = qsTo s (bitN n) by rw [← hl.out]; exact qmN_gwL s] at o2
    obtain ⟨q, hq⟩ : ∃ q, q = qsTo s (bitN n) := ⟨_, rfl⟩
    rw [← hq] at o2
    have hq' := Lib.hid hq; clear hq
    have hqm := Lib.hid (show ∀ k, k < q.length → q[k]?.getD 0 < bitN n ∧ gq s (q[k]?.getD 0) = true from fun k hk => by
      have := get_mem hk
      rwa [hq'.out, qsTo_mem, ← hq'.out] at this)
    have hn2 : q.length = n2 := by rw [← o2.len, toI_len]
    have hqp : 0 < n2 := by rw [← hn2, hq'.out, ← hl.out]; exact qs_pos hbd.out
    have hn2' := Lib.hid hn2; clear hn2
    have hn2b : n2 ≤ 1048576 := by
      have : q.length ≤ bitN n := by rw [hq'.out]; exact Nat.le_trans (List.length_filter_le _ _) (by simp)
      rw [hn2'.out] at this; omega
    obtain ⟨g, m2, f2, rfl, hm2, hr2, hf2⟩ := o2.own hqp
    have cells' := Lib.hid (show ∀ k, k < n2 → w2.cell? ⟨g, k, none⟩ = some (.int .i64 ((q[k]?.getD 0 : Nat) : Int)) from fun k hk => by
      rw [hr2.cell (by omega), hf2 k hk, toI_get (by rw [hn2'.out]; exact hk)])
    have wts := Lib.hid (show ∀ k, k < bitN n → w2.cell? ⟨w.heap.size, k, none⟩ = some (.int .i64 (gw s k)) from fun k hk =>
      (b2.cell (p := ⟨w.heap.size, k, none⟩) s1).trans (r1.cell hk))
    have b02 : Below w.heap.size w w2 := b1.trans (b2.mono b1.size)
    have i2 : IntsAt w2 w2.heap.size A n s := (h.below b02).more b02.size
    clear hr2 hf2 o2 i1 hW' b1 b2 s1 h r1 ht
    go_wp2_with fail
    refine (implSum_any _ _ _ w2.heap.size s _ i2 hn hbd.out).mono ?_
    rintro e w' ⟨rfl, rfl⟩
    go_wp2
    clear i2
    go_loop [6, 22] (fun v i => ∃ (k : Nat) (x : Int), k ≤ n2 ∧ i = .int .i64 k ∧ v = .int .i64 x ∧ Hid (Outer s q k x)) (fun _ i => n2 - (intOf i).toNat)
    case atStart => exact ⟨0, _, Nat.zero_le _, rfl, rfl, Lib.hid ⟨inP_total hbd.out, fun a b h => absurd h (Nat.not_lt_zero _)⟩⟩
    case round =>
      obtain ⟨k, x, hk, rfl, rfl, hout⟩ := hrel
      by_cases hlt : k < n2
      · have hc := cells'.out k hlt
        have hkq := Lib.hid (show k < q.length by rw [hn2'.out]; exact hlt)
        go_wp2
        go_loop [6, 31] (fun v i => ∃ (j : Nat) (y : Int), j ≤ n2 - k ∧ i = .int .i64 j ∧ v = .int .i64 y ∧ Hid (Inner s q k j y)) (fun _ i => n2 - k - (intOf i).toNat)
        case atStart => exact ⟨0, x, Nat.zero_le _, rfl, rfl, Lib.hid ⟨hout.out, fun b h1 h2 => by omega⟩⟩
        case round =>
          obtain ⟨j, y, hj, rfl, rfl, hin⟩ := hrel
          by_cases hjl : j < n2 - k
          · have hcj := cells'.out (k + j) (by omega)
            have hand := and_i64 (q[k]?.getD 0) (q[k + j]?.getD 0) (by have := (hqm.out k hkq.out).1; omega) (by have := (hqm.out (k + j) (by rw [hn2'.out]; omega)).1; omega)
            have hlt2 : q[k]?.getD 0 &&& q[k + j]?.getD 0 < bitN n := Nat.lt_of_le_of_lt Nat.and_le_left (hqm.out k hkq.out).1
            have hcw := wts.out _ hlt2
            have hstep := Lib.hid (inner_step (s := s) (q := q) hkq.out (show k + j < q.length by rw [hn2'.out]; omega) (by rw [hl.out]; exact hqm.out) hin.out)
            go_wp2
            go_round
            case rel => exact ⟨j + 1, _, by omega, by go_num, rfl, hstep⟩
            case measure => simp [intOf]; omega
          · have hnext := Lib.hid (inner_end (show q.length ≤ k + j by rw [hn2'.out]; omega) hin.out)
            go_wp2
            go_round
            case rel => exact ⟨k + 1, y, by omega, by go_num, rfl, hnext⟩
            case measure => simp [intOf]; omega
      · have hfin := Lib.hid (outer_end (s := s) (k := k) (show q.length ≤ k by rw [hn2'.out]; omega) (by rw [hl.out]; exact hq'.out) hout.out)
        go_wp2
        go_ret2
        exact ⟨x, by rw [hg]; rfl, fun _ => hfin.out, (by rw [hg]; intro h; cases h), b02⟩
end Go.Proofs.YtpopefopmbmgaaaDoor
