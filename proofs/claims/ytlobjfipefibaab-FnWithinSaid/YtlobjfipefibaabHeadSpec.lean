/- What is proved here: what the program's and the model's HeadOf return. No conditions but lengths. -/
import Derived.Test.YtlobjfipefibaabWeighSpec
import Derived.Test.YtlobjfipefibaabGhostRest
namespace Go.Proofs.Ytlobjfipefibaab
open Go.RowKit

def headP (ts : List Blk) (ss : List Int) (vs : List Vt) : Nat := headZ ts (getI (sub ts (wtsL ts ss vs))) 0
def headPR (ts : List Blk) (ss : List Int) (vs : List Vt) : Int := if poolOk ts ss vs = true then (headP ts ss vs : Nat) else 0
theorem head_of {ts : List Blk} {ss : List Int} {vs : List Vt} (h : poolOk ts ss vs = true) : headOK ts (wtsL ts ss vs) 0 = true ∧ headHR ts (wtsL ts ss vs) 0 = headPR ts ss vs := by
  have h1 : headOK ts (wtsL ts ss vs) 0 = true := by
    unfold headOK
    have := (poolOk_iff.1 h).1.1.1.pos
    rw [wts_own h, inB_true (Int.le_refl 0) (by omega)]; rfl
  refine ⟨h1, ?_⟩
  unfold headHR headPR headP
  rw [if_pos h1, if_pos h]; rfl

set_option maxRecDepth 100000 in
set_option maxHeartbeats 800000 in
theorem implHeadOf_any (A : Option Addr) (n c : Nat) (ts : List Blk) (A' : Option Addr) (n' c' : Nat) (ss : List Int) (V : Option Addr) (m d : Nat) (vs : List Vt) (w : World) (h : BlksAt w w.heap.size A n ts) (h' : IntsAt w w.heap.size A' n' ss) (hv : VotesAt w w.heap.size V m vs) (hn : n ≤ 1048576) (hn' : n' ≤ 1048576) (hm : m ≤ 1048576) :
    Calls Try.prog 66 #[.slice A n c, .slice A' n' c', .agg #[.slice V m d]] w (UpPost w (.tuple #[.int .i64 (headPR ts ss vs), .bool (poolOk ts ss vs)])) := by
  have hl := Lib.hid h.1
  have hh := Lib.hid h; have hh' := Lib.hid h'; have hvv := Lib.hid hv; clear h h' hv
  have bx0 := Lib.hid (Bx.start w (.slice V m d) 29)
  have hc0 := bx0.out.cell
  cases hg : poolOk ts ss vs
  · have hr := Lib.hid (show headPR ts ss vs = 0 by unfold headPR; rw [if_neg (by rw [hg]; decide)])
    go_enter Try.func66, Try.ntmps66
    go_wp2_with (go_at_call 28; refine (implWeigh_any A n c ts A' n' c' ss V m d vs _ (hh.out.up bx0.out.below) (hh'.out.up' bx0.out.below) (hvv.out.up bx0.out.below) hn hn' hm).mono ?_; rw [hg]; rintro e w1 ⟨A1, n1, c1, rfl, o1, b1⟩; have bx1 := Lib.hid (bx0.out.step b1); clear o1 b1)
    go_ret2
    exact ⟨ret_two hr.out.symm rfl, bx1.out.below⟩
  · have hwr := Lib.hid (show wR ts ss vs = wtsL ts ss vs by unfold wR; rw [hg, if_pos rfl])
    have hwl := Lib.hid (show (wtsL ts ss vs).length = n by rw [← hl.out]; exact wtsK_len _ _ _ _)
    obtain ⟨k1, k2⟩ := head_of hg
    go_enter Try.func66, Try.ntmps66
    go_wp2_with (first
      | (go_at_call 28; refine (implWeigh_any A n c ts A' n' c' ss V m d vs _ (hh.out.up bx0.out.below) (hh'.out.up' bx0.out.below) (hvv.out.up bx0.out.below) hn hn' hm).mono ?_; rw [hg, hwr.out]; rintro e w1 ⟨A1, n1, c1, rfl, o1, b1⟩; have bx1 := Lib.hid (bx0.out.step b1); have o1' := Lib.hid o1; clear o1 b1)
      | (go_at_call 37; refine (implHeadF_any A n c ts A1 n1 c1 _ 0 _ (hh.out.up bx1.out.below) o1'.out.ints hn (by have := o1'.out.len; rw [hwl.out] at this; omega)).mono ?_; rw [k1, k2]; rintro e w2 ⟨rfl, b2⟩; have bx2 := Lib.hid (bx1.out.step b2); clear b2))
    go_ret2
    exact ⟨rfl, bx2.out.below⟩

set_option maxRecDepth 100000 in
set_option maxHeartbeats 800000 in
theorem specHeadOf_any (A : Option Addr) (n c : Nat) (ts : List Blk) (A' : Option Addr) (n' c' : Nat) (ss : List Int) (V : Option Addr) (m d : Nat) (vs : List Vt) (w : World) (h : BlksAt w w.heap.size A n ts) (h' : IntsAt w w.heap.size A' n' ss) (hv : VotesAt w w.heap.size V m vs) (hn : n ≤ 1048576) (hn' : n' ≤ 1048576) (hm : m ≤ 1048576) :
    Calls Try.prog 159 #[.slice A n c, .slice A' n' c', .agg #[.slice V m d]] w (UpPost w (.tuple #[.int .i64 (headPR ts ss vs), .bool (poolOk ts ss vs)])) := by
  have hl := Lib.hid h.1; have hlv := Lib.hid hv.1
  have hh := Lib.hid h; have hh' := Lib.hid h'; have hvv := Lib.hid hv; clear h h' hv
  have bx0 := Lib.hid (Bx.start w (.slice V m d) 29)
  have hc0 := bx0.out.cell
  cases hg : poolOk ts ss vs
  · have hr := Lib.hid (show headPR ts ss vs = 0 by unfold headPR; rw [if_neg (by rw [hg]; decide)])
    go_enter Try.func159, Try.ntmps159
    go_wp2_with (go_at_call 111; refine (specGoodPool_any A n c ts A' n' c' ss V m d vs _ (hh.out.up bx0.out.below) (hh'.out.up' bx0.out.below) (hvv.out.up bx0.out.below) hn hn' hm).mono ?_; rintro e w1 ⟨rfl, b1⟩; rw [hg]; have bx1 := Lib.hid (bx0.out.step b1); clear b1)
    go_ret2
    exact ⟨ret_two hr.out.symm rfl, bx1.out.below⟩
  · have hr := Lib.hid (show headPR ts ss vs = (headP ts ss vs : Nat) by unfold headPR; rw [if_pos hg])
    have hll := Lib.hid (show latL vs (putsL vs m) m = latList vs by unfold latList; rw [hlv.out])
    have hwl := Lib.hid (show wtsK n ss (latList vs) (latList vs).length = wtsL ts ss vs by unfold wtsL; rw [hl.out])
    have hwn := Lib.hid (show (wtsL ts ss vs).length = n by rw [← hl.out]; exact wtsK_len _ _ _ _)
    have hfew : n ≤ 24 := by rw [← hl.out]; exact (poolOk_iff.1 hg).1.1.1.few
    have hpos : 0 < n := by rw [← hl.out]; exact (poolOk_iff.1 hg).1.1.1.pos
    have hm60 : m ≤ 60 := by rw [← hlv.out]; exact (poolOk_iff.1 hg).1.2
    have hvo := Lib.hid (show VotesOf n ss.length (latList vs) by have := lat_of hg; rw [hl.out] at this; exact this)
    have ht := Lib.hid (poolOk_iff.1 hg).1.1.1
    go_enter Try.func159, Try.ntmps159
    go_wp2_with (first
      | (go_at_call 111; refine (specGoodPool_any A n c ts A' n' c' ss V m d vs _ (hh.out.up bx0.out.below) (hh'.out.up' bx0.out.below) (hvv.out.up bx0.out.below) hn hn' hm).mono ?_; rintro e w1 ⟨rfl, b1⟩; rw [hg]; have bx1 := Lib.hid (bx0.out.step b1); have hc1 := bx1.out.cell; clear b1)
      | (go_at_call 121; refine (l6Latest_any V m d vs _ (hvv.out.up bx1.out.below) hm60).mono ?_; rw [hll.out]; rintro e w2 ⟨A2, n2, c2, rfl, o2, b2⟩; have o2' := Lib.hid o2.votes; have bx2 := Lib.hid (bx1.out.step b2); clear o2 b2)
      | (go_at_call 124; refine (l6Weights_any A n c ts A' n' c' ss A2 n2 c2 (latList vs) _ (hh.out.up bx2.out.below) (hh'.out.up' bx2.out.below) o2'.out hfew hvo.out (lat_60 hg)).mono ?_; rw [hwl.out]; rintro e w3 ⟨A3, n3, c3, rfl, o3, b3⟩; have hn3 : n3 = n := by rw [← o3.len]; exact hwn.out
         subst hn3
         have o3' := Lib.hid o3; have bx3 := Lib.hid (bx2.out.step b3); clear o3 b3)
      | (go_at_call 132; refine (l7Head_any A n3 c ts A3 c3 _ 0 _ (hh.out.up bx3.out.below) o3'.out.ints ht.out hpos).mono ?_; rintro e w4 ⟨rfl, b4⟩; have bx4 := Lib.hid (bx3.out.step b4); clear b4))
    go_ret2
    exact ⟨ret_two hr.out.symm rfl, bx4.out.below⟩
end Go.Proofs.Ytlobjfipefibaab
