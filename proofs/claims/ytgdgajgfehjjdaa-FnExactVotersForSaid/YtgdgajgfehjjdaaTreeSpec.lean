/- What is proved here: GoodTree of the model returns what the document says, at every slice of blocks. No conditions. -/
import Derived.Test.YtgdgajgfehjjdaaTreeGood
namespace Go.Proofs.Ytgdgajgfehjjdaa
open Go.RowKit

set_option maxHeartbeats 400000 in
theorem specGoodT_any (A : Option Addr) (n c : Nat) (ts : List Blk) (w : World) (h : BlksAt w w.heap.size A n ts) (hn : n ≤ 1048576) :
    Calls Try.prog 147 #[.slice A n c] w (UpPost w (.bool (goodT ts))) := by
  have hl' := Lib.hid h.1
  have hr := Lib.hid h; clear h
  go_enter Try.func147, Try.ntmps147
  go_wp2_with fail
  go_loopw [7] (fun i wr => ∃ k : Nat, k ≤ n ∧ i = .int .i64 k ∧ Hid (okTo ts k) ∧ Below w.heap.size w wr) (fun i _ => n - (intOf i).toNat)
  case atStart => exact ⟨0, Nat.zero_le _, rfl, Lib.hid (okTo_zero ts), Below.refl _ _⟩
  case round =>
    obtain ⟨k, hk, rfl, hall, hbel⟩ := hrel
    by_cases hlt : k < n
    · obtain ⟨b, off, rfl, hb, hcs⟩ := hr.out.at (by omega)
      have hsz := hbel.size
      have d0 := (hbel.cell (p := ⟨b, off + k * 2, none⟩) hb).trans (hcs k hlt).1
      have d1 := (hbel.cell (p := ⟨b, off + k * 2 + 1, none⟩) hb).trans (hcs k hlt).2
      have hcs' := Lib.hid (fun (q : Nat) (hq : q < n) (o : Obj) => ((hbel.alloc hbel.size o).cell (p := ⟨b, off + q * 2 + 1, none⟩) hb).trans (hcs q hq).2)
      have hB := Lib.hid (fun (o : Obj) => hbel.alloc hbel.size o)
      clear hbel hcs
      have hfin := Lib.hid (fun hx => (goodT_no (ts := ts) (k := k) (by rw [hl'.out]; omega) hx).symm)
      by_cases h0 : k = 0
      · subst h0
        rw [Nat.zero_mul, Nat.add_zero] at d0 d1
        cases g1 : ((ts[0]?.getD (0, 0)).1 != -1)
        · cases g2 : ((ts[0]?.getD (0, 0)).2 != 0)
          · have hok := Lib.hid (show okB ts 0 = true by unfold okB parZ sloZ; simp at g1 g2; simp [g1, g2])
            go_wp2_with fail
            go_roundw
            case rel => exact ⟨1, by omega, by go_num, Lib.hid (okTo_step hall.out hok.out), hB.out _⟩
            case measure => simp [intOf]; omega
          · have hok := Lib.hid (show okB ts 0 = false by unfold okB parZ sloZ; simp at g1 g2; simp [g2])
            go_wp2_with fail
            go_ret
            exact ⟨ret_bool (hfin.out hok.out), hB.out _⟩
        · have hok := Lib.hid (show okB ts 0 = false by unfold okB parZ sloZ; simp at g1; simp [g1])
          go_wp2_with fail
          go_ret
          exact ⟨ret_bool (hfin.out hok.out), hB.out _⟩
      · have hkz : ((k : Int) == 0) = false := by simp; omega
        have hk1 : 1 ≤ k := by omega
        clear h0
        cases g1 : inB (ts[k]?.getD (0, 0)).1 0 ((k : Int) - 1)
        · have hok := Lib.hid (show okB ts k = false by unfold okB; rw [if_neg (by omega), show inB (parZ ts k) 0 ((k : Int) - 1) = false from g1]; rfl)
          go_wp2_with fail
          go_quiet ((go_at_call 140; exact quiet_l1In _ _ _))
          go_wp2_with fail
          go_ret
          exact ⟨ret_bool (hfin.out hok.out), below_drewN (hB.out _) _⟩
        · have hg := inB_iff.1 g1
          obtain ⟨q, hq⟩ := Int.eq_ofNat_of_zero_le hg.1
          have hqk : q < k := by omega
          have e1 := hcs'.out q (by omega)
          have hq' := Lib.hid (show parZ ts k = q from hq)
          rw [hq] at d0 g1
          clear hq hg
          have hmod := Lib.hid (ok_model (by omega) hall.out hq'.out hqk)
          cases g2 : inB (ts[k]?.getD (0, 0)).2 1 4000
          · have hok := Lib.hid (show okB ts k = false by rw [hmod.out, show inB (sloZ ts k) 1 4000 = false from g2]; rfl)
            go_wp2_with fail
            go_quiet ((go_at_call 140; exact quiet_l1In _ _ _))
            go_wp2_with fail
            go_ret
            exact ⟨ret_bool (hfin.out hok.out), below_drewN (hB.out _) _⟩
          · by_cases g3 : (ts[k]?.getD (0, 0)).2 ≤ (ts[q]?.getD (0, 0)).2
            · have hok := Lib.hid (show okB ts k = false by rw [hmod.out, decide_eq_false (show ¬ sloZ ts q < sloZ ts k by unfold sloZ; omega)]; simp)
              go_wp2_with fail
              go_quiet ((go_at_call 140; exact quiet_l1In _ _ _))
              go_wp2_with fail
              go_ret
              exact ⟨ret_bool (hfin.out hok.out), below_drewN (hB.out _) _⟩
            · have hok := Lib.hid (show okB ts k = true by rw [hmod.out, show inB (sloZ ts k) 1 4000 = true from g2, decide_eq_true (show sloZ ts q < sloZ ts k by unfold sloZ; omega)]; rfl)
              go_wp2_with fail
              go_quiet ((go_at_call 140; exact quiet_l1In _ _ _))
              go_wp2_with fail
              go_roundw
              case rel => exact ⟨k + 1, by omega, by go_num, Lib.hid (okTo_step hall.out hok.out), below_drewN (hB.out _) _⟩
              case measure => simp [intOf]; omega
    · have hkn := Lib.hid (show ts.length = k by rw [hl'.out]; omega)
      have hbel' := Lib.hid hbel; clear hbel
      go_wp2_with (go_at_call 140; refine (l1In_any _ _ _ _).mono ?_; rintro e w' ⟨rfl, rfl⟩)
      go_ret
      refine ⟨ret_bool ?_, hbel'.out⟩
      rw [goodT_yes (by rw [hkn.out]; exact hall.out), hl'.out]
end Go.Proofs.Ytgdgajgfehjjdaa
