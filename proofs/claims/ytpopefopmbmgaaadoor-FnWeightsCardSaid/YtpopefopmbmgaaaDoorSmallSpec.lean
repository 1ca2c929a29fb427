/- What is proved here: what the model's SmallestGreat returns, at every slice of integers. No conditions. -/
import Derived.Test.YtpopefopmbmgaaaDoorSmall
namespace Go.Proofs.YtpopefopmbmgaaaDoor
open Go.RowKit

theorem pow_bit (n : Nat) (hn : n ≤ 10) : wrap64 ((2 : Int) ^ n) = (bitN n : Int) := by
  have e : (2 : Int) ^ n = (bitN n : Int) := by unfold bitN; rw [Int.natCast_pow]; rfl
  have := bitN_ten hn
  rw [e]; unfold wrap64; omega

theorem pick_less {b k : Nat} (h : cnt k < cnt b) : pickO (some b) k = some k := if_pos h
theorem pick_more {b k : Nat} (h : ¬ cnt k < cnt b) : pickO (some b) k = some b := if_neg h
def someB (o : Option Nat) : Bool := match o with | none => false | some _ => true

set_option maxHeartbeats 3200000 in
set_option maxRecDepth 100000 in
theorem specSmall_any (A : Option Addr) (n c : Nat) (s : List Int) (w : World) (h : IntsAt w w.heap.size A n s) (hn : n ≤ 1048576) :
    Calls Tryd.prog 32 #[.slice A n c] w (RetOwn w (goodB s) (smallR s)) := by
  cases hg : goodB s
  · have hf := Lib.hid (show RetOwn w (goodB s) (smallR s) (.returned (.tuple #[.slice none 0 0, .bool false])) w by
      unfold smallR; rw [hg]; exact retOwn_nil w false)
    rw [hg] at hf
    go_enter Tryd.func32, Tryd.ntmps32
    go_wp2_with (go_at_call 16; refine (specGood_any _ _ _ w.heap.size s _ h hn).mono ?_; rintro e w' ⟨rfl, rfl⟩)
    go_ret2
    exact hf.out
  · have hl := Lib.hid h.1
    have hbd := Lib.hid (bds_of_good hg)
    have hn10 : n ≤ 10 := by have := (goodB_iff.1 hg).1.2; rw [hl.out] at this; omega
    have hN := bitN_ten hn10
    have hsh := pow_bit n hn10
    have hR := Lib.hid (show smallR s = whoO (bestO (qsTo s (bitN n))) by unfold smallR; rw [hg, hl.out]; rfl)
    go_enter Tryd.func32, Tryd.ntmps32
    go_wp2_with (go_at_call 16; refine (specGood_any _ _ _ w.heap.size s _ h hn).mono ?_; rintro e w' ⟨rfl, rfl⟩)
    have hg' := Lib.hid hg; clear hg
    have h' := Lib.hid h; clear h
    go_loopw [4, 5, 6] (fun v f i wr => ∃ (k : Nat) (A0 : Option Addr) (n0 c0 : Nat) (o : Option Nat), k ≤ bitN n ∧ i = .int .i64 k ∧ v = .slice A0 n0 c0 ∧ f = .bool (someB o) ∧ Hid (o = bestO (qsTo s k)) ∧ OwnAt wr w.heap.size A0 n0 (whoO o) ∧ Below w.heap.size w wr) (fun _ _ i _ => bitN n - (intOf i).toNat)
    case atStart => exact ⟨0, none, 0, 0, none, Nat.zero_le _, rfl, rfl, rfl, Lib.hid rfl, own_nil _ _, Below.refl _ _⟩
    case round =>
      obtain ⟨k, A0, n0, c0, o, hk, rfl, rfl, rfl, ho, hown, hbel⟩ := hrel
      have hn0 := hown.len
      have hn0' : n0 ≤ 10 := by rw [← hn0]; exact whoO_len _
      by_cases hlt : k < bitN n
      · have hlenk := ofL_len k 10
        have i0 : IntsAt wr wr.heap.size A n s := (h'.out.below hbel).more hbel.size
        have hown' := Lib.hid hown; clear hown
        have hgq := Lib.hid (gq_great (s := s) (m := k) (by rw [hl.out]; exact hn10) (by rw [hl.out]; exact hlt))
        have hn0'' := Lib.hid hn0; clear hn0
        cases hx : greatB s (ofL k 10)
        · have hs := Lib.hid (qsTo_no (hgq.out.symm.trans hx))
          go_wp2_with fail
          refine (l1Mask_any k _ (by omega)).mono ?_
          rintro e w1 ⟨A1, n1, c1, rfl, o1, b1⟩
          have hn1 : n1 ≤ 10 := by rw [← o1.len]; exact hlenk
          have i1 : IntsAt w1 w1.heap.size A n s := (i0.below b1).more b1.size
          go_wp2_with fail
          refine (l1Great_any _ _ _ _ _ _ w1.heap.size s (ofL k 10) _ i1 o1.ints (by omega) hn hbd.out (ofL_ten (by exact hlt) hn10 ▸ ofL_vot (Nat.le_refl _))).mono ?_
          rintro e w2 ⟨rfl, rfl⟩
          have o0 := Lib.hid (hown'.out.below b1)
          have bb := hbel.trans (b1.mono hbel.size)
          go_wp2
          go_roundw
          case rel => exact ⟨k + 1, A0, n0, c0, o, by omega, by go_num, rfl, rfl, Lib.hid (by rw [hs.out]; exact ho.out), o0.out, bb⟩
          case measure => simp [intOf]; omega
        · have hs := Lib.hid (qsTo_yes (hgq.out.symm.trans hx))
          have hpk := Lib.hid (show bestO (qsTo s (k + 1)) = pickO o k by rw [hs.out, bestO_snoc, ← ho.out])
          go_wp2_with fail
          refine (l1Mask_any k _ (by omega)).mono ?_
          rintro e w1 ⟨A1, n1, c1, rfl, o1, b1⟩
          have hn1e := Lib.hid o1.len
          have hn1 : n1 ≤ 10 := by rw [← o1.len]; exact hlenk
          have i1 : IntsAt w1 w1.heap.size A n s := (i0.below b1).more b1.size
          go_wp2_with fail
          refine (l1Great_any _ _ _ _ _ _ w1.heap.size s (ofL k 10) _ i1 o1.ints (by omega) hn hbd.out (ofL_ten (by exact hlt) hn10 ▸ ofL_vot (Nat.le_refl _))).mono ?_
          rintro e w2 ⟨rfl, rfl⟩
          have o0 := Lib.hid (hown'.out.below b1)
          have bb := hbel.trans (b1.mono hbel.size)
          have o1' := Lib.hid (o1.fewer hbel.size); clear o1
          cases o with
          | none =>
            have hsb : someB (none : Option Nat) = false := rfl
            go_wp2
            go_roundw
            case rel => exact ⟨k + 1, A1, n1, c1, some k, by omega, by go_num, rfl, rfl, Lib.hid (by rw [hpk.out]; rfl), o1'.out, bb⟩
            case measure => simp [intOf]; omega
          | some b =>
            have hsb : someB (some b) = true := rfl
            by_cases hcc : n1 < n0
            · have hc2 := Lib.hid (pick_less (b := b) (k := k) (by
                have e1 : cnt b = n0 := hn0''.out
                have e2 : cnt k = n1 := hn1e.out
                rw [e1, e2]; exact hcc))
              go_wp2
              go_roundw
              case rel => exact ⟨k + 1, A1, n1, c1, some k, by omega, by go_num, rfl, rfl, Lib.hid (by rw [hpk.out, hc2.out]), o1'.out, bb⟩
              case measure => simp [intOf]; omega
            · have hc2 := Lib.hid (pick_more (b := b) (k := k) (by
                have e1 : cnt b = n0 := hn0''.out
                have e2 : cnt k = n1 := hn1e.out
                rw [e1, e2]; exact hcc))
              go_wp2
              go_roundw
              case rel => exact ⟨k + 1, A0, n0, c0, some b, by omega, by go_num, rfl, rfl, Lib.hid (by rw [hpk.out, hc2.out]), o0.out, bb⟩
              case measure => simp [intOf]; omega
      · have hkk : k = bitN n := by omega
        have hfin := Lib.hid (show whoO o = smallR s by rw [hR.out, ho.out, hkk])
        have hown' := Lib.hid hown; clear hown hn0 hkk
        go_wp2
        go_ret2
        exact ⟨A0, n0, c0, rfl, by rw [← hfin.out]; exact hown'.out, hbel⟩
end Go.Proofs.YtpopefopmbmgaaaDoor
