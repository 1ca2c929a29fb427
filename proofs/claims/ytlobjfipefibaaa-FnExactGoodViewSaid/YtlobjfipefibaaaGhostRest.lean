/- What is proved here: what the model's l7Head, HeadFrom and IsHeaviest return. No conditions but lengths. -/
import Derived.Test.YtlobjfipefibaaaGhostSpec
namespace Go.Proofs.Ytlobjfipefibaaa
open Go.RowKit

set_option maxRecDepth 100000 in
set_option maxHeartbeats 800000 in
theorem l7Head_any (A : Option Addr) (n c : Nat) (ts : List Blk) (A' : Option Addr) (c' : Nat) (xs : List Int) (b : Nat) (w : World) (h : BlksAt w w.heap.size A n ts) (h' : IntsAt w w.heap.size A' n xs) (ht0 : Tree ts) (hb : b < n) :
    Calls Try.prog 114 #[.slice A n c, .slice A' n c', .int .i64 b] w (UpPost w (.int .i64 (headZ ts (getI (sub ts xs)) b : Nat))) := by
  have hl := Lib.hid h.1; have hl' := Lib.hid h'.1
  have hh := Lib.hid h; have hh' := Lib.hid h'; clear h h'
  have ht := Lib.hid ht0
  have hfew : n ≤ 24 := by rw [← hl.out]; exact ht0.few
  have hsl := Lib.hid (show (sub ts xs).length = n by rw [sub_len, hl'.out])
  clear ht0
  go_enter Try.func114, Try.ntmps114
  go_wp2_with fail
  refine (l7Sub_any A n c ts A' c' xs _ hh.out hh'.out ht.out).mono ?_
  rintro e w1 ⟨A1, n1, c1, rfl, o1, b1⟩
  have hn1 : n1 = n := by rw [← o1.len]; exact hsl.out
  subst hn1
  have i1 := Lib.hid o1.ints
  have u1 := Lib.hid b1
  clear o1 b1
  go_wp2_with fail
  refine (l7Child_any A n1 c ts A1 c1 (sub ts xs) b _ (hh.out.up u1.out) i1.out ht.out).mono ?_
  rintro e w2 ⟨rfl, b2⟩
  have u2 := Lib.hid (u1.out.trans (b2.mono u1.out.size))
  have i2 := Lib.hid (i1.out.up' b2)
  clear b2 i1
  go_wp2_with fail
  go_loopg [2, 8] n1 (fun g a k wr => ∃ x : Nat, x < n1 ∧ n1 ≤ g + x ∧ a = .int .i64 x ∧ k = .int .i64 (bestL (getI (sub ts xs)) (kids ts x)) ∧ Hid (headZ ts (getI (sub ts xs)) b = headZ ts (getI (sub ts xs)) x) ∧ Hid (Below w2.heap.size w2 wr))
  case atStart => exact ⟨b, hb, by omega, rfl, rfl, Lib.hid rfl, Lib.hid (Below.refl _ _)⟩
  case round =>
    obtain ⟨x, hx, hg, rfl, rfl, heq, hbel⟩ := hrel
    have hcs := best_kids ts (getI (sub ts xs)) x ts.length
    rcases hcs with ⟨_, e0⟩ | ⟨m, e1, e2, _⟩
    · have e0' : bestL (getI (sub ts xs)) (kids ts x) = -1 := e0
      have hst := Lib.hid (heq.out.trans (headZ_leaf (getI (sub ts xs)) (by rw [hl.out]; exact hx) e0'))
      have u9 := Lib.hid (u2.out.trans (hbel.out.mono u2.out.size))
      rw [e0']
      clear e0 e0'
      go_wp2_with fail
      go_ret
      exact ⟨ret_int (by rw [hst.out]), u9.out⟩
    · have e1' : bestL (getI (sub ts xs)) (kids ts x) = (m : Int) := e1
      have hst := Lib.hid (heq.out.trans (headZ_step ht.out (getI (sub ts xs)) (by rw [hl.out]; exact hx) e1'))
      have hma := kids_above ht.out e2
      have hmn : m < n1 := by rw [← hl.out]; exact hma.2.1
      have hxm : x < m := hma.1
      rw [e1']
      have u9 := Lib.hid (u2.out.trans (hbel.out.mono u2.out.size))
      have i9 := Lib.hid (i2.out.up' hbel.out)
      clear e1 e1' e2 hma
      go_wp2_with (go_at_call 130; refine (l7Child_any A n1 c ts A1 c1 (sub ts xs) m _ (hh.out.up u9.out) i9.out ht.out).mono ?_; rintro e w3 ⟨rfl, b3⟩; have b4 := Lib.hid (hbel.out.trans (b3.mono hbel.out.size)); clear b3)
      go_roundg (gk - 1)
      case measure => omega
      case rel => exact ⟨m, hmn, by omega, rfl, rfl, hst, b4⟩

theorem child_no_low {ts : List Blk} {xs : List Int} {a : Int} (h : a < 1) : childOK ts xs a = false := by unfold childOK; rw [inB_low h]; simp
theorem child_no_high {ts : List Blk} {xs : List Int} {a : Int} (h : (ts.length : Int) ≤ a) : childOK ts xs a = false := by unfold childOK; rw [inB_high (by omega)]; simp
theorem beq_nat (x y : Nat) : ((x : Int) == (y : Int)) = decide ((x : Int) = (y : Int)) := by
  by_cases h : (x : Int) = y <;> simp [h]

end Go.Proofs.Ytlobjfipefibaaa
