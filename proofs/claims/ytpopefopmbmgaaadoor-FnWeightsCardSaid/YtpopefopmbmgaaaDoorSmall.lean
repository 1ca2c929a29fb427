/- What is proved here: what SmallestGreat returns, in the program and in the model, at every slice of integers. No conditions but that the table of bits holds what its text lays. -/
import Derived.Test.YtpopefopmbmgaaaDoorQuorums
namespace Go.Proofs.YtpopefopmbmgaaaDoor
open Go.RowKit

theorem qsTo_mem {s : List Int} {k x : Nat} : x ∈ qsTo s k ↔ x < k ∧ gq s x = true := by
  unfold qsTo; rw [List.mem_filter, List.mem_range]
theorem bitN_ten {n : Nat} (h : n ≤ 10) : bitN n ≤ 1024 := Nat.pow_le_pow_right (by omega) h
theorem qs_pos {s : List Int} (hb : Bds s) : 0 < (qsTo s (bitN s.length)).length := by
  have : bitN s.length - 1 ∈ qsTo s (bitN s.length) := qsTo_mem.2 ⟨by have := bitN_pos s.length; omega, gq_full hb⟩
  exact List.length_pos_of_mem this
theorem get_mem {l : List Nat} {k : Nat} (h : k < l.length) : l[k]?.getD 0 ∈ l := by
  rw [List.getElem?_eq_getElem h]; exact List.getElem_mem h
/-- The best so far: before the first look, the first one. -/
def bestI (q : List Nat) (k b : Nat) : Prop := (k = 0 ∧ b = q[0]?.getD 0) ∨ bestO (q.take k) = some b
theorem bestI_less {q : List Nat} {k b : Nat} (hk : k < q.length) (h : bestI q k b) (hc : cnt (q[k]?.getD 0) < cnt b) : bestI q (k + 1) (q[k]?.getD 0) := by
  rcases h with ⟨rfl, rfl⟩ | h
  · exact absurd hc (Nat.lt_irrefl _)
  · right
    have e : q.take (k + 1) = q.take k ++ [q[k]?.getD 0] := by
      rw [List.take_succ_eq_append_getElem hk, List.getElem?_eq_getElem hk]; rfl
    rw [e, bestO_snoc, h]
    simp [pickO, hc]
theorem bestI_more {q : List Nat} {k b : Nat} (hk : k < q.length) (h : bestI q k b) (hc : ¬ cnt (q[k]?.getD 0) < cnt b) : bestI q (k + 1) b := by
  right
  have e : q.take (k + 1) = q.take k ++ [q[k]?.getD 0] := by
    rw [List.take_succ_eq_append_getElem hk, List.getElem?_eq_getElem hk]; rfl
  rw [e, bestO_snoc]
  rcases h with ⟨rfl, rfl⟩ | h
  · simp [bestO, pickO]
  · rw [h]; simp [pickO, hc]
theorem bestI_end {q : List Nat} {k b : Nat} (h0 : 0 < q.length) (hk : q.length ≤ k) (h : bestI q k b) : bestO q = some b := by
  rcases h with ⟨rfl, rfl⟩ | h
  · omega
  · rwa [List.take_of_length_le hk] at h

set_option maxHeartbeats 1600000 in
set_option maxRecDepth 100000 in
theorem implSmall_any (A : Option Addr) (n c : Nat) (s : List Int) (w : World) (h : IntsAt w w.heap.size A n s) (hn : n ≤ 1048576) (ht : TabOk w) :
    Calls Tryd.prog 31 #[.slice A n c] w (RetOwn w (goodB s) (smallR s)) := by
  cases hg : goodB s
  · have hf := Lib.hid (show RetOwn w (goodB s) (smallR s) (.returned (.tuple #[.slice none 0 0, .bool false])) w by
      unfold smallR; rw [hg]; exact retOwn_nil w false)
    rw [hg] at hf
    go_enter Tryd.func31, Tryd.ntmps31
    go_wp2_with (go_at_call 15; refine (implGood_any _ _ _ w.heap.size s _ h hn).mono ?_; rintro e w' ⟨rfl, rfl⟩)
    go_ret2
    exact hf.out
  · have hl := Lib.hid h.1
    have hbd := Lib.hid (bds_of_good hg)
    have hn10 : n ≤ 10 := by have := (goodB_iff.1 hg).1.2; rw [hl.out] at this; omega
    have hN := bitN_ten hn10
    have hNp := bitN_pos n
    have hN2 : bitN n ≤ 1048576 := by omega
    go_enter Tryd.func31, Tryd.ntmps31
    go_wp2_with fail
    refine (implGood_any _ _ _ w.heap.size s _ h hn).mono ?_
    rintro e w' ⟨rfl, rfl⟩
    go_wp2_with fail
    refine (groupWeights_any A n c s _ h hn10 hbd.out ht).mono ?_
    rintro e w1 ⟨rfl, r1, b1, s1⟩
    have i1 : IntsAt w1 w1.heap.size (some ⟨w.heap.size, 0, none⟩) (bitN n) (gwL s) :=
      IntsAt.of_row (Nat.le_refl _) s1 (by rw [gwL_len, hl.out]) (r1.congr (fun i hi => by rw [gwL_get (by rw [hl.out]; exact hi)]))
    have hW : ∀ k, k < (gwL s).length → 0 ≤ (gwL s)[k]?.getD 0 ∧ (gwL s)[k]?.getD 0 ≤ 1048576 := fun k hk => by
      rw [gwL_len] at hk
      rw [gwL_get hk]
      have := wt_bd (m := k) hbd.out (Nat.le_refl s.length)
      rw [hl.out] at this
      unfold gw
      rw [hl.out]
      omega
    have hW' := Lib.hid hW; clear hW
    clear r1
    go_wp2_with fail
    refine (quorumMasks_any _ _ _ (gwL s) _ i1 hNp hN2 hW'.out).mono ?_
    rintro e w2 ⟨A2, n2, c2, rfl, o2, b2⟩
    rw [show qmN (gwL s) (bitN n) = qsTo s (bitN n) by rw [← hl.out]; exact qmN_gwL s] at o2
    obtain ⟨q, hq⟩ : ∃ q, q = qsTo s (bitN n) := ⟨_, rfl⟩
    rw [← hq] at o2
    have hq' := Lib.hid hq; clear hq
    have hqm := Lib.hid (show ∀ k, k < q.length → q[k]?.getD 0 < 1024 from fun k hk => by
      have := get_mem hk
      rw [hq'.out, qsTo_mem, ← hq'.out] at this
      omega)
    have hn2 : q.length = n2 := by rw [← o2.len, toI_len]
    have hqp : 0 < n2 := by rw [← hn2, hq'.out, ← hl.out]; exact qs_pos hbd.out
    have hn2' := Lib.hid hn2; clear hn2
    have hn2b : n2 ≤ 1048576 := by
      have : q.length ≤ bitN n := by rw [hq'.out]; exact Nat.le_trans (List.length_filter_le _ _) (by simp)
      rw [hn2'.out] at this; omega
    obtain ⟨g, m2, f2, rfl, hm2, hr2, hf2⟩ := o2.own hqp
    have cells : ∀ k, k < n2 → w2.cell? ⟨g, k, none⟩ = some (.int .i64 ((q[k]?.getD 0 : Nat) : Int)) := fun k hk => by
      rw [hr2.cell (by omega), hf2 k hk, toI_get (by rw [hn2'.out]; exact hk)]
    have cells' := Lib.hid cells
    have hc0 := cells 0 hqp
    have b02 : Below w.heap.size w w2 := b1.trans (b2.mono b1.size)
    have t2 : TabOk w2 := ht.below b02 ht.pos
    have hqp' : (0 : Int) < (n2 : Int) := by omega
    clear cells hr2 hf2 o2 i1 hW' b1 b2 s1 h ht
    go_wp2
    clear hc0
    go_loop [5, 19] (fun v i => ∃ k b : Nat, k ≤ n2 ∧ i = .int .i64 k ∧ v = .int .i64 (b : Int) ∧ b < 1024 ∧ Hid (bestI q k b)) (fun _ i => n2 - (intOf i).toNat)
    case atStart => exact ⟨0, q[0]?.getD 0, Nat.zero_le _, rfl, rfl, hqm.out 0 (by rw [hn2'.out]; exact hqp), Lib.hid (.inl ⟨rfl, rfl⟩)⟩
    case round =>
      obtain ⟨k, b, hk, rfl, rfl, hb1024, hbest⟩ := hrel
      by_cases hlt : k < n2
      · have hc := cells'.out k hlt
        have hx1024 := hqm.out k (by rw [hn2'.out]; exact hlt)
        have hkq := Lib.hid (show k < q.length by rw [hn2'.out]; exact hlt)
        by_cases hcc : cnt (q[k]?.getD 0) < cnt b
        · have hnext := Lib.hid (bestI_less hkq.out hbest.out hcc)
          go_wp2_with fail
          refine (countVoters_any (q[k]?.getD 0) _ hx1024).mono ?_
          rintro e w' ⟨rfl, rfl⟩
          go_wp2_with fail
          refine (countVoters_any b _ hb1024).mono ?_
          rintro e w' ⟨rfl, rfl⟩
          go_wp2
          go_round
          case rel => exact ⟨k + 1, q[k]?.getD 0, by omega, by go_num, rfl, hx1024, hnext⟩
          case measure => simp [intOf]; omega
        · have hnext := Lib.hid (bestI_more hkq.out hbest.out hcc)
          go_wp2_with fail
          refine (countVoters_any (q[k]?.getD 0) _ hx1024).mono ?_
          rintro e w' ⟨rfl, rfl⟩
          go_wp2_with fail
          refine (countVoters_any b _ hb1024).mono ?_
          rintro e w' ⟨rfl, rfl⟩
          go_wp2
          go_round
          case rel => exact ⟨k + 1, b, by omega, by go_num, rfl, hb1024, hnext⟩
          case measure => simp [intOf]; omega
      · have hbo := bestI_end (by rw [hn2'.out]; exact hqp) (by rw [hn2'.out]; omega) hbest.out
        have hok := Lib.hid (show okM (b : Int) = true from inB_true (by omega) (by omega))
        have hR := Lib.hid (show ofR (b : Int) = smallR s by
          unfold ofR smallR
          rw [hok.out, hg, if_pos rfl, if_pos rfl, hl.out, ← hq'.out, hbo, Int.toNat_natCast]; rfl)
        clear hbo
        go_wp2_with fail
        refine (implOf_any _ _ t2).mono ?_
        rintro e w3 ⟨A3, n3, c3, rfl, o3, b3⟩
        have o3' := Lib.hid o3; clear o3
        go_wp2
        go_ret2
        exact ⟨A3, n3, c3, by rw [hok.out]; rfl, by rw [← hR.out]; exact o3'.out.fewer b02.size, b02.trans (b3.mono b02.size)⟩
end Go.Proofs.YtpopefopmbmgaaaDoor
