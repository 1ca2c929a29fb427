/- What is proved here: what the model's l6Latest and LatestIn return. No conditions but lengths. -/
import Derived.Test.YthiegfbdmmpabaaLatestImpl
import Derived.Test.YthiegfbdmmpabaaLiarsSpec
import Derived.Test.YthiegfbdmmpabaaBoth
namespace Go.Proofs.Ythiegfbdmmpabaa
open Go.RowKit

theorem quiet_l1Has {w : World} {n : Nat} {A : Option Addr} {k c : Nat} {xs : List Int} {x : Int} {b : Bool} (h : IntsAt w w.heap.size A k xs) (hk : k ≤ 1048576) (hb : hasB xs x = b) : Calls Try.prog 118 #[.slice A k c, .int .i64 x] (w.drewN n) fun e w'' => e = .returned (.bool b) ∧ ∃ m, w'' = w.drewN m := by
  subst hb
  exact (l1Has_any A k c w.heap.size xs x _ (show IntsAt (w.drewN n) w.heap.size A k xs from ⟨h.1, h.2⟩) hk).mono fun _ _ ⟨he, hm⟩ => ⟨he, n, hm.symm⟩
theorem has_contains (xs : List Int) (x : Int) : xs.contains x = hasB xs x := by
  unfold hasB; rw [Bool.eq_iff_iff]; simp

set_option maxRecDepth 100000 in
set_option maxHeartbeats 3200000 in
theorem l6Latest_any (V : Option Addr) (m d : Nat) (vs : List Vt) (w : World) (hv : VotesAt w w.heap.size V m vs) (hm : m ≤ 60) :
    Calls Try.prog 129 #[.slice V m d] w (RetVs w (latL vs (putsL vs m) m)) := by
  have hlv := Lib.hid hv.1
  have hvv := Lib.hid hv; clear hv
  go_enter Try.func129, Try.ntmps129
  go_wp2_with (go_at_call 131; refine (l6Liars_any V m d vs _ hvv.out hm).mono ?_; rintro e w1 ⟨A2, n2, c2, rfl, o2, b2⟩; have oL := Lib.hid o2; have ub := Lib.hid b2; clear o2 b2)
  have hn2 := oL.out.len
  have hpm := putsL_len vs m
  have hn2' : n2 ≤ 1048576 := by omega
  clear hn2
  have hvv1 := Lib.hid (hvv.out.up ub.out)
  go_loopw [4, 5, 6, 11] (fun o _ _ i wr => ∃ k : Nat, k ≤ m ∧ i = .int .i64 k ∧ Hid (wr.ownsRow w1.heap.size 63 3 o (latL vs (putsL vs m) k).length (flatV (latL vs (putsL vs m) k))) ∧ Hid (Below w1.heap.size w1 wr)) (fun _ _ _ i _ => m - (intOf i).toNat)
  case atStart => exact ⟨0, Nat.zero_le _, rfl, Lib.hid (World.ownsRow_nil _ _ _ _), Lib.hid (Below.refl _ _)⟩
  case round =>
    obtain ⟨k, hk, rfl, ho, hbel⟩ := hrel
    have hlk := latL_len vs (putsL vs m) k
    by_cases hlt : k < m
    · obtain ⟨vb, vo, rfl, hvb, hcs⟩ := hvv1.out.at (by omega)
      obtain ⟨b, hb⟩ : ∃ b, getV vs k = b := ⟨_, rfl⟩
      have q0 := (hbel.out.cell (p := ⟨vb, vo + k * 3, none⟩) hvb).trans (hcs k hlt).1
      have q1 := (hbel.out.cell (p := ⟨vb, vo + k * 3 + 1, none⟩) hvb).trans (hcs k hlt).2.1
      have q2 := (hbel.out.cell (p := ⟨vb, vo + k * 3 + 2, none⟩) hvb).trans (hcs k hlt).2.2
      rw [hb] at q0 q1 q2
      obtain ⟨b1, b2, b3⟩ := b
      simp only at q0 q1 q2
      have hcs' := Lib.hid hcs
      have hb1 := bx_below wr (.cells #[.int .i64 b1, .int .i64 b2, .int .i64 b3] 63)
      have r3 := three_cells wr b1 b2 b3 63
      obtain ⟨W, hW⟩ : ∃ W, wr.alloc (.cells #[.int .i64 b1, .int .i64 b2, .int .i64 b3] 63) = W := ⟨_, rfl⟩
      rw [hW] at hb1 r3
      have e0 := r3.cell (i := 0) (by omega)
      have e1 := r3.cell (i := 1) (by omega)
      have e2 := r3.cell (i := 2) (by omega)
      simp only [if_true, if_false, show (1 : Nat) ≠ 0 by decide, show (2 : Nat) ≠ 0 by decide, show (2 : Nat) ≠ 1 by decide] at e0 e1 e2
      have hW' := Lib.hid hW
      have u1 := Lib.hid (hbel.out.trans (hb1.mono hbel.out.size))
      have o1 := Lib.hid (ownsV_belowW ho.out hb1)
      have hL : IntsAt W W.heap.size A2 n2 (putsL vs m) := (oL.out.ints.below u1.out).more u1.out.size
      have hkm : (k : Int) < (m : Int) := by omega
      have hdef := Lib.hid (show latL vs (putsL vs m) (k + 1) = if (!hasB (putsL vs m) b1 && lastV vs k) = true then latL vs (putsL vs m) k ++ [(b1, b2, b3)] else latL vs (putsL vs m) k by simp only [latL]; rw [has_contains, hb])
      obtain ⟨M, hM⟩ : ∃ M, m - 1 = M := ⟨_, rfl⟩
      have hMI : (m : Int) - 1 = (M : Int) := by omega
      have hMw : IntKind.i64.wrap ((m : Int) - 1) = (M : Int) := by rw [hMI]; exact wrap_natV (by omega)
      clear hW hb1 r3 hcs hMI
      cases h1 : hasB (putsL vs m) b1
      · by_cases hlast : k = M
        · have heq : ((k : Int) == (M : Int)) = true := by simp [hlast]
          have hnx := Lib.hid (show latL vs (putsL vs m) (k + 1) = latL vs (putsL vs m) k ++ [(b1, b2, b3)] by
            rw [hdef.out, h1, if_pos]; unfold lastV; rw [hlv.out, show (k + 1 == m) = true by simp; omega]; rfl)
          clear hlast hb hM
          go_wp2_with fail
          rw [hW'.out]
          go_quiet ((go_at_call 118; exact quiet_l1Has (by assumption) (by assumption) (by assumption)))
          have hbox := three_cells (W.drewN nq) b1 b2 b3 63
          have f0 := hbox.cell (i := 0) (by omega)
          have f1 := hbox.cell (i := 1) (by omega)
          have f2 := hbox.cell (i := 2) (by omega)
          simp only [if_true, if_false, show (1 : Nat) ≠ 0 by decide, show (2 : Nat) ≠ 0 by decide, show (2 : Nat) ≠ 1 by decide] at f0 f1 f2
          have F0 := Lib.hid f0; have F1 := Lib.hid f1; have F2 := Lib.hid f2
          clear hbox f0 f1 f2
          have o2 := Lib.hid (show (W.drewN nq).ownsRow w1.heap.size 63 3 _ _ _ from o1.out)
          have u2 := Lib.hid (below_drewN u1.out nq)
          have hws2 := u2.out.size
          have hws1 := u1.out.size
          go_wp2_with (at_builtin; refine appendVt _ rfl _ _ 53 rfl w1.heap.size Try.underlying53 _ (latL vs (putsL vs m) k) rfl (o2.out.alloc _) (W.drewN nq).heap.size 1 b1 b2 b3 rfl F0.out F1.out F2.out (by omega) (by simp; omega) ?_; intro g c9 w9 r1 r2 r3; have z1 := Lib.hid r1; have z2 := Lib.hid r2; clear r1 r2 r3)
          have u9 := Lib.hid (show Below w1.heap.size w1 w9 from (u2.out.alloc hws2 (.cells #[.int .i64 b1, .int .i64 b2, .int .i64 b3] 63)).grown z2.out (by simp; omega) (fun j e => ((o2.out.alloc (.cells #[.int .i64 b1, .int .i64 b2, .int .i64 b3] 63)).lt j e).1))
          go_roundw
          case rel => exact ⟨k + 1, by omega, by go_num, Lib.hid (by rw [hnx.out]; simpa using z1.out), u9⟩
          case measure => simp [intOf]; omega
        · have heq : ((k : Int) == (M : Int)) = false := by simp; omega
          obtain ⟨K, hK⟩ : ∃ K, k + 1 = K := ⟨_, rfl⟩
          have hKm : K < m := by omega
          obtain ⟨a, ha⟩ : ∃ a, getV vs K = a := ⟨_, rfl⟩
          have p0 := (u1.out.cell (p := ⟨vb, vo + K * 3, none⟩) hvb).trans (hcs'.out K hKm).1
          rw [ha] at p0
          obtain ⟨a1, a2, a3⟩ := a
          simp only at p0
          have hKI : (k : Int) + 1 = (K : Int) := by omega
          have hKw : IntKind.i64.wrap ((k : Int) + 1) = (K : Int) := by rw [hKI]; exact wrap_natV (by omega)
          have hKmI : (K : Int) < (m : Int) := by omega
          have hK0 : (0 : Int) ≤ (K : Int) := by omega
          have hlv2 := Lib.hid (show lastV vs k = !(a1 == b1) by unfold lastV; rw [hlv.out, hK, ha, hb, show (K == m) = false by simp; omega]; rfl)
          clear hb ha hlast hK hM
          by_cases g1 : a1 = b1
          · have c1 : (a1 != b1) = false := by simp [g1]
            have hnx := Lib.hid (show latL vs (putsL vs m) (k + 1) = latL vs (putsL vs m) k by rw [hdef.out, h1, hlv2.out, if_neg]; simp [g1])
            clear g1
            go_wp2_with fail
            rw [hW'.out]
            go_quiet ((go_at_call 118; exact quiet_l1Has (by assumption) (by assumption) (by assumption)))
            go_wp2_with fail
            go_roundw
            case rel => exact ⟨k + 1, by omega, by go_num, Lib.hid (by rw [hnx.out]; exact o1.out), Lib.hid (below_drewN u1.out _)⟩
            case measure => simp [intOf]; omega
          · have c1 : (a1 != b1) = true := by simp [g1]
            have hnx := Lib.hid (show latL vs (putsL vs m) (k + 1) = latL vs (putsL vs m) k ++ [(b1, b2, b3)] by rw [hdef.out, h1, hlv2.out, if_pos]; simp [g1])
            clear g1
            go_wp2_with fail
            rw [hW'.out]
            go_quiet ((go_at_call 118; exact quiet_l1Has (by assumption) (by assumption) (by assumption)))
            have hbox := three_cells (W.drewN nq) b1 b2 b3 63
            have f0 := hbox.cell (i := 0) (by omega)
            have f1 := hbox.cell (i := 1) (by omega)
            have f2 := hbox.cell (i := 2) (by omega)
            simp only [if_true, if_false, show (1 : Nat) ≠ 0 by decide, show (2 : Nat) ≠ 0 by decide, show (2 : Nat) ≠ 1 by decide] at f0 f1 f2
            have F0 := Lib.hid f0; have F1 := Lib.hid f1; have F2 := Lib.hid f2
            clear hbox f0 f1 f2
            have o2 := Lib.hid (show (W.drewN nq).ownsRow w1.heap.size 63 3 _ _ _ from o1.out)
            have u2 := Lib.hid (below_drewN u1.out nq)
            have hws2 := u2.out.size
            have hws1 := u1.out.size
            go_wp2_with (at_builtin; refine appendVt _ rfl _ _ 53 rfl w1.heap.size Try.underlying53 _ (latL vs (putsL vs m) k) rfl (o2.out.alloc _) (W.drewN nq).heap.size 1 b1 b2 b3 rfl F0.out F1.out F2.out (by omega) (by simp; omega) ?_; intro g c9 w9 r1 r2 r3; have z1 := Lib.hid r1; have z2 := Lib.hid r2; clear r1 r2 r3)
            have u9 := Lib.hid (show Below w1.heap.size w1 w9 from (u2.out.alloc hws2 (.cells #[.int .i64 b1, .int .i64 b2, .int .i64 b3] 63)).grown z2.out (by simp; omega) (fun j e => ((o2.out.alloc (.cells #[.int .i64 b1, .int .i64 b2, .int .i64 b3] 63)).lt j e).1))
            go_roundw
            case rel => exact ⟨k + 1, by omega, by go_num, Lib.hid (by rw [hnx.out]; simpa using z1.out), u9⟩
            case measure => simp [intOf]; omega
      · have hnx := Lib.hid (show latL vs (putsL vs m) (k + 1) = latL vs (putsL vs m) k by rw [hdef.out, h1, if_neg]; simp)
        clear hb hM
        go_wp2_with fail
        rw [hW'.out]
        go_quiet ((go_at_call 118; exact quiet_l1Has (by assumption) (by assumption) (by assumption)))
        go_wp2_with fail
        go_roundw
        case rel => exact ⟨k + 1, by omega, by go_num, Lib.hid (by rw [hnx.out]; exact o1.out), Lib.hid (below_drewN u1.out _)⟩
        case measure => simp [intOf]; omega
    · have hkn : k = m := by omega
      have ho' := Lib.hid (show wr.ownsRow w1.heap.size 63 3 _ (latL vs (putsL vs m) m).length (flatV (latL vs (putsL vs m) m)) by rw [hkn] at ho; exact ho.out)
      have u3 := Lib.hid (ub.out.trans (hbel.out.mono ub.out.size))
      have hs1 := ub.out.size
      clear hkn
      go_wp2_with fail
      go_ret
      obtain ⟨A', c', e, hown⟩ := OwnV.of_owns ho'.out
      exact ⟨A', _, c', by rw [e]; rfl, hown.fewer hs1, u3.out⟩

set_option maxRecDepth 100000 in
set_option maxHeartbeats 800000 in
theorem specLatest_any (A : Option Addr) (n c : Nat) (ts : List Blk) (A' : Option Addr) (n' c' : Nat) (ss : List Int) (V : Option Addr) (m d : Nat) (vs : List Vt) (w : World) (h : BlksAt w w.heap.size A n ts) (h' : IntsAt w w.heap.size A' n' ss) (hv : VotesAt w w.heap.size V m vs) (hn : n ≤ 1048576) (hn' : n' ≤ 1048576) (hm : m ≤ 1048576) :
    Calls Try.prog 60 #[.slice A n c, .slice A' n' c', .agg #[.slice V m d]] w (RetVotes w (poolOk ts ss vs) (latR ts ss vs)) := by
  have hlv := Lib.hid hv.1
  have hh := Lib.hid h; have hh' := Lib.hid h'; have hvv := Lib.hid hv; clear h h' hv
  have bx0 := Lib.hid (Bx.start w (.slice V m d) 55)
  have hc0 := bx0.out.cell
  cases hg : poolOk ts ss vs
  · have hr := Lib.hid (show latR ts ss vs = [] by unfold latR; rw [hg]; rfl)
    go_enter Try.func60, Try.ntmps60
    go_wp2_with (go_at_call 112; refine (specGoodPool_any A n c ts A' n' c' ss V m d vs _ (hh.out.up bx0.out.below) (hh'.out.up' bx0.out.below) (hvv.out.up bx0.out.below) hn hn' hm).mono ?_; rintro e w1 ⟨rfl, b1⟩; rw [hg]; have bx1 := Lib.hid (bx0.out.step b1); clear b1)
    go_ret2
    exact ⟨none, 0, 0, rfl, by rw [hr.out]; exact OwnV.nil _ _, bx1.out.below⟩
  · obtain ⟨⟨_, h60⟩, _, _⟩ := poolOk_iff.1 hg
    have hr := Lib.hid (show latR ts ss vs = latL vs (putsL vs m) m by unfold latR latList; rw [hg, if_pos rfl, hlv.out])
    have hm60 : m ≤ 60 := by rw [← hlv.out]; exact h60
    clear h60
    go_enter Try.func60, Try.ntmps60
    go_wp2_with (first
      | (go_at_call 112; refine (specGoodPool_any A n c ts A' n' c' ss V m d vs _ (hh.out.up bx0.out.below) (hh'.out.up' bx0.out.below) (hvv.out.up bx0.out.below) hn hn' hm).mono ?_; rintro e w1 ⟨rfl, b1⟩; rw [hg]; have bx1 := Lib.hid (bx0.out.step b1); have hc1 := bx1.out.cell; clear b1)
      | (go_at_call 129; refine (l6Latest_any V m d vs _ (hvv.out.up bx1.out.below) hm60).mono ?_; rintro e w2 ⟨A2, n2, c2, rfl, o2, b2⟩; have o2' := Lib.hid (o2.fewer bx1.out.below.size); have bx2 := Lib.hid (bx1.out.step b2); clear o2 b2))
    go_ret2
    exact ⟨A2, n2, c2, rfl, by rw [hr.out]; exact o2'.out, bx2.out.below⟩
end Go.Proofs.Ythiegfbdmmpabaa
