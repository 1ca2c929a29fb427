/- What is proved here: what the weights of all groups and the list of all quorums are, at every valid list of stakes. No conditions beside that, and that the table of bits holds what its text lays. -/
import Derived.Test.YtpopefopmbmgaaaDoorOnes
import Derived.Test.YtpopefopmbmgaaaDoorMaskWalks
namespace Go.Proofs.YtpopefopmbmgaaaDoor
open Go.RowKit

theorem ofL_vot {m j n : Nat} (h : j ≤ n) : Vot n (ofL m j) := fun k hk => by
  have hmem : (ofL m j)[k]?.getD 0 ∈ ofL m j := by rw [List.getElem?_eq_getElem hk]; exact List.getElem_mem hk
  unfold ofL at hmem ⊢
  simp only [List.mem_map, List.mem_filter, List.mem_range] at hmem
  obtain ⟨i, ⟨h1, _⟩, h2⟩ := hmem
  rw [← h2]; omega
theorem wt_yes {s : List Int} {m j : Nat} (h : m.testBit j = true) : wtL s (ofL m (j + 1)) = wtL s (ofL m j) + s[j]?.getD 0 := by
  rw [ofL_yes h]; simp [wtL, stakesOf, sumL, List.sum_append]
theorem wt_no {s : List Int} {m j : Nat} (h : m.testBit j = false) : wtL s (ofL m (j + 1)) = wtL s (ofL m j) := by rw [ofL_no h]
theorem wt_bd {s : List Int} {m j : Nat} (hb : Bds s) (h : j ≤ s.length) : 0 ≤ wtL s (ofL m j) ∧ wtL s (ofL m j) ≤ 1000 * (j : Int) := by
  have h1 := wtL_bd hb (xs := ofL m j) (ofL_vot h)
  have h2 := ofL_len m j
  exact ⟨h1.1, by omega⟩

/-- The weight of the group of a mask. -/
def gw (s : List Int) (m : Nat) : Int := wtL s (ofL m s.length)

set_option maxHeartbeats 1600000 in
set_option maxRecDepth 100000 in
theorem groupWeights_any (A : Option Addr) (n c : Nat) (s : List Int) (w : World) (h : IntsAt w w.heap.size A n s) (hn : n ≤ 10) (hb : Bds s) (ht : TabOk w) :
    Calls Tryd.prog 49 #[.slice A n c] w fun e w' => e = .returned (.slice (some ⟨w.heap.size, 0, none⟩) (bitN n) (bitN n)) ∧
      w'.rowIs w.heap.size 3 (bitN n) (fun i => .int .i64 (gw s i)) ∧ Below w.heap.size w w' ∧ w.heap.size < w'.heap.size := by
  have hl' := Lib.hid h.1
  have hr := Lib.hid h; clear h
  have hb' := Lib.hid hb; clear hb
  have ht' := Lib.hid ht; clear ht
  have hN : bitN n < 2048 := by unfold bitN; exact Nat.pow_lt_pow_right (by omega) (show n < 11 by omega)
  have hsh : wrap64 ((2 : Int) ^ n) = (bitN n : Int) := by
    have e : (2 : Int) ^ n = (bitN n : Int) := by unfold bitN; rw [Int.natCast_pow]; rfl
    rw [e]; unfold wrap64; omega
  have hmk := fun W => run_make_row' (P := Tryd.prog) 23 3 (.int .i64 0) 8 Tryd.underlying23 info3 rfl .i64 .i64 (bitN n) (by omega) (by omega) W
  go_enter Tryd.func49, Tryd.ntmps49
  go_wp2
  clear hmk hsh
  go_loopw [13] (fun i wr => ∃ k : Nat, k ≤ bitN n ∧ i = .int .i64 k ∧ wr.rowIs w.heap.size 3 (bitN n) (fun j => if j < k then .int .i64 (gw s j) else .int .i64 0) ∧ Below w.heap.size w wr ∧ w.heap.size < wr.heap.size) (fun i _ => bitN n - (intOf i).toNat)
  case atStart => exact ⟨0, Nat.zero_le _, rfl, (World.rowIs_made w (.int .i64 0) (bitN n) 3).congr (by intro i hi; simp), (Below.refl _ _).alloc (Nat.le_refl _) _, by simp⟩
  case round =>
    obtain ⟨k, hk, rfl, hrow, hbel, hsz⟩ := hrel
    by_cases hlt : k < bitN n
    · have hrow' := Lib.hid hrow; clear hrow
      go_wp2
      go_loopw [18] (fun i w2 => ∃ j : Nat, j ≤ n ∧ i = .int .i64 j ∧ w2.rowIs w.heap.size 3 (bitN n) (fun q => if q = k then .int .i64 (wtL s (ofL k j)) else if q < k then .int .i64 (gw s q) else .int .i64 0) ∧ Below w.heap.size w w2 ∧ w.heap.size < w2.heap.size) (fun i _ => n - (intOf i).toNat)
      case atStart =>
        refine ⟨0, Nat.zero_le _, rfl, hrow'.out.congr ?_, hbel, hsz⟩
        intro q hq
        by_cases e : q = k
        · subst e; simp [wtL, stakesOf, sumL, ofL_zero]
        · simp [e]
      case round =>
        obtain ⟨j, hj, rfl, hrow2, hbel2, hsz2⟩ := hrel
        by_cases hjl : j < n
        · obtain ⟨b, off, rfl, hbB, hc0⟩ := hr.out.2 j hjl
          have hc := (hbel2.cell (p := ⟨b, off + j, none⟩) hbB).trans hc0
          have hct := (ht'.out.below hbel2 ht'.out.pos).cell (i := j) (by omega)
          have hand := and_i64 k (bitN j) (by omega) (by have := bitN_lt (k := j) (by omega); omega)
          rw [and_bit] at hand
          have hpos := bitN_pos j
          have hj10 : (j : Int) < 10 := by omega
          clear hc0
          cases hb : k.testBit j
          · rw [hb] at hand
            have hne : (bits .and .i64 (k : Int) (bitN j : Int) != 0) = false := by rw [hand]; rfl
            have hs := Lib.hid (wt_no (s := s) hb)
            clear hb hand
            have hrow2' := Lib.hid hrow2; clear hrow2
            go_wp2
            go_roundw
            case rel => exact ⟨j + 1, by omega, by go_num, by rw [hs.out]; exact hrow2'.out, hbel2, hsz2⟩
            case measure => simp [intOf]; omega
          · rw [hb] at hand
            have hne : (bits .and .i64 (k : Int) (bitN j : Int) != 0) = true := by rw [hand]; simp; omega
            have hs := Lib.hid (wt_yes (s := s) hb)
            have hd := hrow2.cell hlt
            simp only [if_true] at hd
            have hfz := hrow2.frozen k
            obtain ⟨g1, g2⟩ := wt_bd (m := k) hb'.out (show j ≤ s.length by rw [hl'.out]; omega)
            obtain ⟨g3, g4⟩ := hb'.out j (by rw [hl'.out]; exact hjl)
            clear hb hand
            have hrow2' := Lib.hid hrow2; clear hrow2
            go_wp2
            go_roundw
            case rel =>
              refine ⟨j + 1, by omega, by go_num, (hrow2'.out.set k _).congr ?_, hbel2.setCell (by simp) _, by simpa using hsz2⟩
              intro q hq
              by_cases e : q = k
              · subst e; simp only [if_true]; rw [hs.out]
              · simp only [e, if_false]
            case measure => simp [intOf]; omega
        · have hjn : j = n := by omega
          have hgw := Lib.hid (show wtL s (ofL k j) = gw s k by unfold gw; rw [hl'.out, hjn])
          clear hjn
          have hrow2' := Lib.hid hrow2; clear hrow2
          go_wp2
          go_roundw
          case rel =>
            refine ⟨k + 1, by omega, by go_num, hrow2'.out.congr ?_, hbel2, hsz2⟩
            intro q hq
            by_cases e : q = k
            · subst e; simp [hgw.out]
            · by_cases e2 : q < k
              · simp [e, e2, show q < k + 1 by omega]
              · simp [e, e2, show ¬ q < k + 1 by omega]
          case measure => simp [intOf]; omega
    · have hrow' := Lib.hid hrow; clear hrow
      go_wp2
      go_ret
      exact ⟨rfl, hrow'.out.congr (by intro j hj; simp [show j < k by omega]), hbel, hsz⟩
end Go.Proofs.YtpopefopmbmgaaaDoor
