/- What is proved here: the law on OfMask returns true at every integer, and writes nothing that was there. No conditions but that the table of bits holds what its text lays. -/
import Derived.Test.YtpopefopmbmgaaaDoorOfWalks
namespace Go.Proofs.YtpopefopmbmgaaaDoor
open Go.RowKit

theorem ofR_len (mask : Int) : (ofR mask).length ≤ 10 := by
  unfold ofR; split
  · exact ofL_len _ _
  · simp
theorem eqB_self (xs : List Int) : eqB xs xs = true := eqB_yes rfl (fun _ _ => rfl)

set_option maxHeartbeats 1600000 in
theorem lawOfMask (mask : Int) (w : World) (ht : TabOk w) :
    Calls Tryd.prog 8 #[.int .i64 mask] w fun e w' => e = .returned (.bool true) ∧ Below w.heap.size w w' := by
  have hlen := ofR_len mask
  have hq1 : (okM mask != okM mask) = false := by simp
  go_enter Tryd.func8, Tryd.ntmps8
  go_wp2_with fail
  refine (specOf_any mask w).mono ?_
  rintro e w1 ⟨A1, n1, c1, rfl, o1, b1⟩
  have hn1 : n1 ≤ 10 := by rw [← o1.len]; exact hlen
  have t1 : TabOk w1 := ht.below b1 ht.pos
  go_wp2_with fail
  refine (implOf_any mask w1 t1).mono ?_
  rintro e w2 ⟨A2, n2, c2, rfl, o2, b2⟩
  have hn2 : n2 ≤ 10 := by rw [← o2.len]; exact hlen
  have i1 : IntsAt w2 w1.heap.size A1 n1 (ofR mask) := o1.ints.below b2
  have hq2 : eqB (ofR mask) (ofR mask) = true := eqB_self _
  go_wp2_with fail
  refine (eqIntS_any A2 A1 n2 n1 c2 c1 w2.heap.size _ _ w2 o2.ints (i1.more b2.size) (by omega) (by omega)).mono ?_
  rintro e w2' ⟨rfl, d, rfl⟩
  go_wp2_with fail
  refine (mark_any A2 n2 c2 w1.heap.size _ 1 _ (o2.drewN d) (by omega) (by decide) (by decide)).mono ?_
  rintro e w3 ⟨rfl, o3, only⟩
  have b3 : Below w1.heap.size w2 w3 := (below_drewN (Below.refl _ _) d).trans (only.below (fun ad e => (o2.low ad e).1))
  have hs3 : w2.heap.size ≤ w3.heap.size := b3.size
  clear only
  go_wp2_with fail
  refine (held_any A2 n2 c2 w3.heap.size 1 w3 o3.ints (by omega) (by decide) (by decide)).mono ?_
  rintro e w3' ⟨rfl, rfl⟩
  have hlt0 : ¬ (1 + (n2 : Int)) < 0 := by omega
  have hne : ((1 + (n2 : Int)) != (1 + (n2 : Int))) = false := by simp
  have b13 : Below w1.heap.size w1 w3 := b2.trans b3
  have t3 : TabOk w3 := t1.below b13 t1.pos
  go_wp2_with fail
  refine (implOf_any mask w3 t3).mono ?_
  rintro e w4 ⟨A4, n4, c4, rfl, o4, b4⟩
  have hn4 : n4 ≤ 10 := by rw [← o4.len]; exact hlen
  have i4 : IntsAt w4 w1.heap.size A1 n1 (ofR mask) := (i1.below b3).below (b4.mono b13.size)
  have hs4 : w1.heap.size ≤ w4.heap.size := Nat.le_trans b13.size b4.size
  go_wp2_with fail
  refine (eqIntS_any A4 A1 n4 n1 c4 c1 w4.heap.size _ _ w4 o4.ints (i4.more hs4) (by omega) (by omega)).mono ?_
  rintro e w4' ⟨rfl, d4, rfl⟩
  have o5 : OwnAt (w4.drewN d4) w1.heap.size A2 n2 (marks 1 n2) := (o3.below b4).drewN d4
  go_wp2_with fail
  refine (held_any A2 n2 c2 w4.heap.size 1 _ o5.ints (by omega) (by decide) (by decide)).mono ?_
  rintro e w5 ⟨rfl, rfl⟩
  go_wp2
  go_ret
  refine ⟨rfl, below_drewN (b1.trans ((b13.mono b1.size).trans (b4.mono ?_))) d4⟩
  exact Nat.le_trans b1.size b13.size
end Go.Proofs.YtpopefopmbmgaaaDoor
