/- What is proved here: what the program's latestByVoter returns, where the votes are a valid pool's. No conditions but lengths. -/
import Derived.Test.YtgdgajgfehjjdaaMapVotes
import Derived.Test.YtgdgajgfehjjdaaLiarsImpl
namespace Go.Proofs.Ytgdgajgfehjjdaa
open Go.RowKit Go.Maps

/-- The voters of a list struck. -/
def delL (D : DataW Unit) (l : List Int) : Nat → DataW Unit
  | 0 => D
  | j + 1 => (delL D l j).del (.int .i64 (l[j]?.getD 0))
theorem keyI {x : Int} (h0 : 0 ≤ x) (h1 : x ≤ 1000) : keyOf Try.prog 3 (.int .i64 x) = some (.int .i64 x) := keyOf_int_mk Try.underlying3 (WalkArith.wf_i64 (by omega))
theorem lawI : Keyed Try.prog 3 := int_keyed Try.underlying3

set_option maxRecDepth 100000 in
set_option maxHeartbeats 1600000 in
theorem latestBy_any (V : Option Addr) (m d : Nat) (vs : List Vt) (w : World) (hv : VotesAt w w.heap.size V m vs) (hm : m ≤ 60) (hs : ∀ k, k < vs.length → k ≠ 0 → lessV (getV vs (k - 1)) (getV vs k) = true) (hw : ∀ k, k < vs.length → 0 ≤ (getV vs k).1 ∧ (getV vs k).1 ≤ 1000) (hp : ∀ j, j < (putsL vs m).length → 0 ≤ (putsL vs m)[j]?.getD 0 ∧ (putsL vs m)[j]?.getD 0 ≤ 1000) :
    Calls Try.prog 78 #[.agg #[.slice V m d]] w fun e w' => ∃ b, e = .returned (.map (some b)) ∧ w'.ownsMap Try.prog 3 votE b m (delL (latD vs m) (putsL vs m) (putsL vs m).length) ∧ w.heap.size ≤ b ∧ Below w.heap.size w w' := by
  have hlv := Lib.hid hv.1
  have hvv := Lib.hid hv; clear hv
  have hs' := Lib.hid hs; have hw' := Lib.hid hw; have hp' := Lib.hid hp
  clear hs hw hp
  have bx0 := Lib.hid (Bx.start w (.slice V m d) 36)
  have hc0 := bx0.out.cell
  have hmm := @run_makeMap Try.prog
  have hsz0 : (w.alloc (.cells #[.slice V m d] 36)).heap.size = w.heap.size + 1 := by simp
  have hm0 := Lib.hid (World.ownsMap_made (w.alloc (.cells #[.slice V m d] 36)) Try.prog 3 votE)
  have bx1 := Lib.hid (bx0.out.step (bx_below _ (.map #[] 0)))
  rw [hsz0] at hm0
  go_enter Try.func78, Try.ntmps78
  go_wp2_with fail
  clear hmm
  go_loopw [5, 12] (fun _ i wr => ∃ k : Nat, k ≤ m ∧ i = .int .i64 k ∧ Hid (wr.ownsMap Try.prog 3 votE (w.heap.size + 1) k (latD vs k)) ∧ Hid (Bx w (.slice V m d) 36 wr)) (fun _ i _ => m - (intOf i).toNat)
  case atStart => exact ⟨0, Nat.zero_le _, rfl, hm0, bx1⟩
  case round =>
    obtain ⟨k, hk, rfl, hown, hbx⟩ := hrel
    by_cases hlt : k < m
    · obtain ⟨vb, vo, rfl, hvb, q0, q1, q2⟩ := hvv.out.2 k hlt
      have q0' := (hbx.out.below.cell (p := ⟨vb, vo + k * 3, none⟩) hvb).trans q0
      have q1' := (hbx.out.below.cell (p := ⟨vb, vo + k * 3 + 1, none⟩) hvb).trans q1
      have q2' := (hbx.out.below.cell (p := ⟨vb, vo + k * 3 + 2, none⟩) hvb).trans q2
      have hwk := hw'.out k (by rw [hlv.out]; exact hlt)
      obtain ⟨b, hb⟩ : ∃ b, getV vs k = b := ⟨_, rfl⟩
      rw [hb] at q0' q1' q2' hwk
      obtain ⟨b1, b2, b3⟩ := b
      simp only at q0' q1' q2' hwk
      have hst := Lib.hid (show latD vs (k + 1) = (latD vs k).put (.int .i64 b1) (votD (b1, b2, b3)) by simp only [latD]; rw [hb])
      have hkey := Lib.hid (keyI hwk.1 hwk.2)
      have bx2 := Lib.hid (hbx.out.step (bx_below wr (.cells #[.int .i64 b1, .int .i64 b2, .int .i64 b3] 60)))
      have hsz := hbx.out.size
      clear q0 q1 q2 hb hwk
      go_wp2_with (at_mapUpdate; refine wpList_mapUpdate_own _ rfl _ _ _ 96 rfl 3 60 lawI Try.underlying96 votE (w.heap.size + 1) k (latD vs k) rfl (hown.out.alloc _) (by unfold maxLen; omega) _ _ _ rfl rfl hkey.out _ [] (votE_mk (b1, b2, b3)) ?_; intro w1 hown1 hgrow1; have z1 := Lib.hid hown1; have z2 := Lib.hid hgrow1; clear hown1 hgrow1)
      have bx3 := Lib.hid (show Bx w (.slice (some ⟨vb, vo, none⟩) m d) 36 w1 from ⟨bx2.out.up.grown z2.out bx2.out.size (fun j e => by cases e; exact Nat.le_refl _)⟩)
      go_roundw
      case rel => exact ⟨k + 1, by omega, by go_num, Lib.hid (by rw [hst.out]; exact z1.out), bx3⟩
      case measure => simp [intOf]; omega
    · have hkm : k = m := by omega
      have hown' := Lib.hid (show wr.ownsMap Try.prog 3 votE (w.heap.size + 1) m (latD vs m) by rw [hkm] at hown; exact hown.out)
      have hcx := hbx.out.cell
      have hpl := putsL_len vs m
      clear hkm hown
      go_wp2_with (go_at_call 104; refine (liarsIn_any V m d vs _ (hvv.out.up hbx.out.below) hm hs'.out).mono ?_; rintro e w2 ⟨A2, n2, c2, rfl, o2, b2⟩; have hn2 := o2.len; have o2' := Lib.hid o2; have y2 := Lib.hid (hown'.out.kept (row := none) ⟨b2.os, b2.tape, b2.output, b2.size, fun k hk _ => b2.block k hk⟩ (by simp)); have bx2 := Lib.hid (hbx.out.step b2); clear o2 b2)
      subst hn2
      go_loopw [7, 24] (fun _ i wq => ∃ j : Nat, j ≤ (putsL vs m).length ∧ i = .int .i64 j ∧ Hid (wq.ownsMap Try.prog 3 votE (w.heap.size + 1) m (delL (latD vs m) (putsL vs m) j)) ∧ Hid (Bx w (.slice V m d) 36 wq) ∧ Hid (OwnAt wq wr.heap.size A2 (putsL vs m).length (putsL vs m))) (fun _ i _ => (putsL vs m).length - (intOf i).toNat)
      case atStart => exact ⟨0, Nat.zero_le _, rfl, y2, bx2, o2'⟩
      case round =>
        obtain ⟨j, hj, rfl, hown, hbq, hol⟩ := hrel
        by_cases hjl : j < (putsL vs m).length
        · obtain ⟨lb, lo, rfl, _, hlc⟩ := hol.out.ints.2 j hjl
          have hpj := hp'.out j hjl
          obtain ⟨x, hx⟩ : ∃ x, (putsL vs m)[j]?.getD 0 = x := ⟨_, rfl⟩
          rw [hx] at hlc hpj
          have hst := Lib.hid (show delL (latD vs m) (putsL vs m) (j + 1) = (delL (latD vs m) (putsL vs m) j).del (.int .i64 x) by simp only [delL]; rw [hx])
          have hkey := Lib.hid (keyI hpj.1 hpj.2)
          have hlow := hol.out.low _ rfl
          have hlow' := Lib.hid hlow.1
          have hsr := hown'.out.lt
          have hjI : (j : Int) < ((putsL vs m).length : Int) := by omega
          clear hx hpj hlow
          go_wp2_with (at_delete; refine wpList_delete_own _ rfl _ _ 96 3 rfl 60 lawI Try.underlying96 votE (w.heap.size + 1) m (delL (latD vs m) (putsL vs m) j) rfl hown.out _ _ rfl hkey.out ?_; intro w3 hown3 hturn3; have z1 := Lib.hid hown3; have z2 := Lib.hid hturn3.grown; clear hown3 hturn3)
          have bx3 := Lib.hid (show Bx w (.slice V m d) 36 w3 from ⟨hbq.out.up.grown z2.out hbq.out.size (fun j e => by cases e; exact Nat.le_refl _)⟩)
          have ol3 := Lib.hid (hol.out.keep (w' := w3) z2.out.size (fun ad e => z2.out.block _ (hol.out.low ad e).2 (by cases e; intro h; injection h with h; have h2 : lb = w.heap.size + 1 := h; have h3 : _ ≤ lb := hlow'.out; omega)))
          go_roundw
          case rel => exact ⟨j + 1, by omega, by go_num, Lib.hid (by rw [hst.out]; exact z1.out), bx3, ol3⟩
          case measure => simp [intOf]; omega
        · have hje : j = (putsL vs m).length := by omega
          have y3 := Lib.hid (show wr.ownsMap Try.prog 3 votE (w.heap.size + 1) m (delL (latD vs m) (putsL vs m) (putsL vs m).length) by rw [hje] at hown; exact hown.out)
          clear hje
          go_wp2_with fail
          go_ret
          exact ⟨w.heap.size + 1, rfl, y3.out, by omega, hbq.out.below⟩
end Go.Proofs.Ytgdgajgfehjjdaa
