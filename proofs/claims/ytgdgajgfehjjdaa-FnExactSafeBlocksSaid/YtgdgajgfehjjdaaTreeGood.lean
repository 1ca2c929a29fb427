/- What is proved here: GoodTree of the program and of the model return what the document says, at every slice of blocks. No conditions. -/
import Derived.Test.YtgdgajgfehjjdaaTrees
import Derived.WalkLawsBesides
namespace Go.Proofs.Ytgdgajgfehjjdaa
open Go.RowKit

def UpPost (w : World) (v : Value) (e : Ending) (w' : World) : Prop := e = .returned v ∧ Below w.heap.size w w'

theorem quiet_l1In {w : World} {n : Nat} (x lo hi : Int) : Calls Try.prog 140 #[.int .i64 x, .int .i64 lo, .int .i64 hi] (w.drewN n) fun e w'' => e = .returned (.bool (inB x lo hi)) ∧ ∃ m, w'' = w.drewN m :=
  (l1In_any x lo hi _).mono fun _ _ ⟨he, hm⟩ => ⟨he, n, hm.symm⟩

set_option maxHeartbeats 400000 in
theorem implGoodT_any (A : Option Addr) (n c : Nat) (ts : List Blk) (w : World) (h : BlksAt w w.heap.size A n ts) (hn : n ≤ 1048576) :
    Calls Try.prog 118 #[.slice A n c] w (UpPost w (.bool (goodT ts))) := by
  have hl' := Lib.hid h.1
  by_cases h1 : n < 1
  · have hg := Lib.hid (goodT_len (ts := ts) (inB_low (by rw [hl'.out]; omega)))
    clear h
    go_enter Try.func118, Try.ntmps118
    go_wp2_with fail
    go_ret
    exact ⟨ret_bool hg.out.symm, Below.refl _ _⟩
  · by_cases h2 : 24 < n
    · have hg := Lib.hid (goodT_len (ts := ts) (inB_high (by rw [hl'.out]; omega)))
      clear h
      go_enter Try.func118, Try.ntmps118
      go_wp2_with fail
      go_ret
      exact ⟨ret_bool hg.out.symm, Below.refl _ _⟩
    · obtain ⟨b, off, rfl, hb, hcs⟩ := h.at (by omega)
      have c0 := (hcs 0 (by omega)).1
      have c1 := (hcs 0 (by omega)).2
      rw [Nat.zero_mul, Nat.add_zero] at c0 c1
      have hcs' := Lib.hid hcs; clear hcs h
      by_cases hp : (ts[0]?.getD (0, 0)).1 = -1
      · by_cases hs : (ts[0]?.getD (0, 0)).2 = 0
        · rw [hp] at c0
          rw [hs] at c1
          have hx := Lib.hid (show okTo ts 1 from okTo_step (okTo_zero ts) (by unfold okB parZ sloZ; rw [hp, hs]; rfl))
          clear hp hs
          go_enter Try.func118, Try.ntmps118
          go_wp2_with fail
          clear c0 c1
          go_loopw [3] (fun i wr => ∃ k : Nat, 1 ≤ k ∧ k ≤ n ∧ i = .int .i64 k ∧ Hid (okTo ts k) ∧ ∃ m, wr = w.drewN m) (fun i _ => n - (intOf i).toNat)
          case atStart => exact ⟨1, Nat.le_refl _, by omega, rfl, hx, 0, rfl⟩
          case round =>
            obtain ⟨k, hk1, hk, rfl, hall, m, rfl⟩ := hrel
            by_cases hlt : k < n
            · obtain ⟨d0, d1⟩ := hcs'.out k hlt
              have hfin := Lib.hid (fun hx => (goodT_no (ts := ts) (k := k) (by rw [hl'.out]; omega) hx).symm)
              by_cases g1 : 0 ≤ (ts[k]?.getD (0, 0)).1
              · by_cases g2 : (ts[k]?.getD (0, 0)).1 < k
                · obtain ⟨q, hq⟩ := Int.eq_ofNat_of_zero_le g1
                  have hqk : q < k := by omega
                  obtain ⟨_, e1⟩ := hcs'.out q (by omega)
                  have hq' := Lib.hid (show parZ ts k = q from hq)
                  rw [hq] at d0
                  clear hq g1 g2
                  by_cases g3 : (ts[k]?.getD (0, 0)).2 ≤ (ts[q]?.getD (0, 0)).2
                  · go_wp2_with fail
                    go_quiet (fail)
                    go_wp2_with fail
                    go_ret
                    refine ⟨ret_bool (hfin.out ?_), below_drewN (Below.refl _ _) _⟩
                    rw [ok_model (by omega) hall.out hq'.out hqk, decide_eq_false (show ¬ sloZ ts q < sloZ ts k by unfold sloZ; omega)]; simp
                  · by_cases g4 : 4000 < (ts[k]?.getD (0, 0)).2
                    · go_wp2_with fail
                      go_quiet (fail)
                      go_wp2_with fail
                      go_ret
                      refine ⟨ret_bool (hfin.out ?_), below_drewN (Below.refl _ _) _⟩
                      rw [ok_model (by omega) hall.out hq'.out hqk, inB_high (show 4000 < sloZ ts k by unfold sloZ; omega)]; simp
                    · go_wp2_with fail
                      go_quiet (fail)
                      go_wp2_with fail
                      go_roundw
                      case rel =>
                        refine ⟨k + 1, by omega, by omega, by go_num, Lib.hid (okTo_step hall.out ((ok_iff (by omega)).2 ?_)), _, rfl⟩
                        have e2 : parN ts k = q := by unfold parN; rw [hq'.out]; rfl
                        rw [e2, hq'.out]
                        refine ⟨⟨by omega, by omega⟩, ?_, ?_⟩ <;> unfold sloZ <;> omega
                      case measure => simp [intOf]; omega
                · go_wp2_with fail
                  go_quiet (fail)
                  go_wp2_with fail
                  go_ret
                  refine ⟨ret_bool (hfin.out ?_), below_drewN (Below.refl _ _) _⟩
                  unfold okB; rw [if_neg (by omega), inB_high (show (k : Int) - 1 < parZ ts k by unfold parZ; omega)]; rfl
              · go_wp2_with fail
                go_quiet (fail)
                go_wp2_with fail
                go_ret
                refine ⟨ret_bool (hfin.out ?_), below_drewN (Below.refl _ _) _⟩
                unfold okB; rw [if_neg (by omega), inB_low (show parZ ts k < 0 by unfold parZ; omega)]; rfl
            · go_wp2_with fail
              go_ret
              have hkn : ts.length = k := by rw [hl'.out]; omega
              refine ⟨ret_bool ?_, below_drewN (Below.refl _ _) _⟩
              rw [goodT_yes (by rw [hkn]; exact hall.out), inB_true (by omega) (by omega)]
        · have hg := Lib.hid (goodT_no (ts := ts) (k := 0) (by rw [hl'.out]; omega) (by unfold okB sloZ; simp [hs]))
          rw [hp] at c0
          clear hp
          go_enter Try.func118, Try.ntmps118
          go_wp2_with fail
          go_ret
          exact ⟨ret_bool hg.out.symm, Below.refl _ _⟩
      · have hg := Lib.hid (goodT_no (ts := ts) (k := 0) (by rw [hl'.out]; omega) (by unfold okB parZ; simp [hp]))
        go_enter Try.func118, Try.ntmps118
        go_wp2_with fail
        go_ret
        exact ⟨ret_bool hg.out.symm, Below.refl _ _⟩
end Go.Proofs.Ytgdgajgfehjjdaa
