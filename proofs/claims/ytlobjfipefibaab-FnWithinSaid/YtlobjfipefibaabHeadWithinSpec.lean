/- What is proved here: what the program's and the model's HeadWithin return. No conditions but lengths. -/
import Derived.Test.YtlobjfipefibaabTrimSpec
import Derived.Test.YtlobjfipefibaabHeadSpec
namespace Go.Proofs.Ytlobjfipefibaab
open Go.RowKit

def headWR (ts : List Blk) (ss : List Int) (vs : List Vt) (now keep : Int) : Int := if trimOK ts ss vs now keep = true then headPR ts ss (actR ts ss vs now keep) else 0
theorem act_pool {ts : List Blk} {ss : List Int} {vs : List Vt} {now keep : Int} (h : trimOK ts ss vs now keep = true) : poolOk ts ss (actR ts ss vs now keep) = true := by
  unfold actR
  rw [if_pos h]
  exact poolOk_filter (trimOK_iff.1 h).1 _

set_option maxRecDepth 100000 in
set_option maxHeartbeats 1600000 in
theorem implHeadW_any (A : Option Addr) (n c : Nat) (ts : List Blk) (A' : Option Addr) (n' c' : Nat) (ss : List Int) (V : Option Addr) (m d : Nat) (vs : List Vt) (now keep : Int) (w : World) (h : BlksAt w w.heap.size A n ts) (h' : IntsAt w w.heap.size A' n' ss) (hv : VotesAt w w.heap.size V m vs) (hn : n ≤ 1048576) (hn' : n' ≤ 1048576) (hm : m ≤ 1048576) :
    Calls Try.prog 62 #[.slice A n c, .slice A' n' c', .agg #[.slice V m d], .int .i64 now, .int .i64 keep] w (UpPost w (.tuple #[.int .i64 (headWR ts ss vs now keep), .bool (trimOK ts ss vs now keep)])) := by
  have hl := Lib.hid h.1; have hl' := Lib.hid h'.1
  have hh := Lib.hid h; have hh' := Lib.hid h'; have hvv := Lib.hid hv; clear h h' hv
  have bx0 := Lib.hid (Bx.start w (.slice V m d) 29)
  have hc0 := bx0.out.cell
  cases hg : trimOK ts ss vs now keep
  · have hr := Lib.hid (show headWR ts ss vs now keep = 0 by unfold headWR; rw [if_neg (by rw [hg]; decide)])
    go_enter Try.func62, Try.ntmps62
    go_wp2_with (go_at_call 50; refine (implActive_any A n c ts A' n' c' ss V m d vs now keep _ (hh.out.up bx0.out.below) (hh'.out.up' bx0.out.below) (hvv.out.up bx0.out.below) hn hn' hm).mono ?_; rw [hg]; rintro e w1 ⟨A1, n1, c1, rfl, o1, b1⟩; have kk := bx_below w1 (.cells #[.slice A1 n1 c1] 29); have x1 := Lib.hid (bx_row w1 (.slice A1 n1 c1) 29); have o2 := Lib.hid (o1.below kk); have b2 := b1.trans (kk.mono b1.size); have bx1 := Lib.hid (bx0.out.step b2); clear o1 b1 b2 kk hc0)
    go_ret2
    exact ⟨ret_two hr.out.symm rfl, bx1.out.below⟩
  · have hr := Lib.hid (show headWR ts ss vs now keep = headPR ts ss (actR ts ss vs now keep) by unfold headWR; rw [if_pos hg])
    have hp := Lib.hid (act_pool hg)
    have hlen := Lib.hid (actR_len ts ss vs now keep)
    go_enter Try.func62, Try.ntmps62
    go_wp2_with (first
      | (go_at_call 50; refine (implActive_any A n c ts A' n' c' ss V m d vs now keep _ (hh.out.up bx0.out.below) (hh'.out.up' bx0.out.below) (hvv.out.up bx0.out.below) hn hn' hm).mono ?_; rw [hg]; rintro e w1 ⟨A1, n1, c1, rfl, o1, b1⟩; have kk := bx_below w1 (.cells #[.slice A1 n1 c1] 29); have x1 := Lib.hid (bx_row w1 (.slice A1 n1 c1) 29); have o2 := Lib.hid (o1.below kk); have b2 := b1.trans (kk.mono b1.size); have bx1 := Lib.hid (bx0.out.step b2); clear o1 b1 b2 kk hc0; have hx1 := x1.out.cell (i := 0) (by omega))
      | (go_at_call 66; refine (implHeadOf_any A n c ts A' n' c' ss A1 n1 c1 _ _ (hh.out.up bx1.out.below) (hh'.out.up' bx1.out.below) o2.out.votes hn hn' (by have := o2.out.len; have := hlen.out; omega)).mono ?_; rw [hp.out, ← hr.out]; rintro e w3 ⟨rfl, b3⟩; have bx3 := Lib.hid (bx1.out.step b3); clear b3))
    go_ret2
    exact ⟨rfl, bx3.out.below⟩

set_option maxRecDepth 100000 in
set_option maxHeartbeats 1600000 in
theorem specHeadW_any (A : Option Addr) (n c : Nat) (ts : List Blk) (A' : Option Addr) (n' c' : Nat) (ss : List Int) (V : Option Addr) (m d : Nat) (vs : List Vt) (now keep : Int) (w : World) (h : BlksAt w w.heap.size A n ts) (h' : IntsAt w w.heap.size A' n' ss) (hv : VotesAt w w.heap.size V m vs) (hn : n ≤ 1048576) (hn' : n' ≤ 1048576) (hm : m ≤ 1048576) :
    Calls Try.prog 63 #[.slice A n c, .slice A' n' c', .agg #[.slice V m d], .int .i64 now, .int .i64 keep] w (UpPost w (.tuple #[.int .i64 (headWR ts ss vs now keep), .bool (trimOK ts ss vs now keep)])) := by
  have hl := Lib.hid h.1; have hl' := Lib.hid h'.1
  have hh := Lib.hid h; have hh' := Lib.hid h'; have hvv := Lib.hid hv; clear h h' hv
  have bx0 := Lib.hid (Bx.start w (.slice V m d) 29)
  have hc0 := bx0.out.cell
  cases hg : trimOK ts ss vs now keep
  · have hr := Lib.hid (show headWR ts ss vs now keep = 0 by unfold headWR; rw [if_neg (by rw [hg]; decide)])
    go_enter Try.func63, Try.ntmps63
    go_wp2_with (go_at_call 51; refine (specActive_any A n c ts A' n' c' ss V m d vs now keep _ (hh.out.up bx0.out.below) (hh'.out.up' bx0.out.below) (hvv.out.up bx0.out.below) hn hn' hm).mono ?_; rw [hg]; rintro e w1 ⟨A1, n1, c1, rfl, o1, b1⟩; have kk := bx_below w1 (.cells #[.slice A1 n1 c1] 29); have x1 := Lib.hid (bx_row w1 (.slice A1 n1 c1) 29); have o2 := Lib.hid (o1.below kk); have b2 := b1.trans (kk.mono b1.size); have bx1 := Lib.hid (bx0.out.step b2); clear o1 b1 b2 kk hc0)
    go_ret2
    exact ⟨ret_two hr.out.symm rfl, bx1.out.below⟩
  · have hr := Lib.hid (show headWR ts ss vs now keep = headPR ts ss (actR ts ss vs now keep) by unfold headWR; rw [if_pos hg])
    have hp := Lib.hid (act_pool hg)
    have hlen := Lib.hid (actR_len ts ss vs now keep)
    go_enter Try.func63, Try.ntmps63
    go_wp2_with (first
      | (go_at_call 51; refine (specActive_any A n c ts A' n' c' ss V m d vs now keep _ (hh.out.up bx0.out.below) (hh'.out.up' bx0.out.below) (hvv.out.up bx0.out.below) hn hn' hm).mono ?_; rw [hg]; rintro e w1 ⟨A1, n1, c1, rfl, o1, b1⟩; have kk := bx_below w1 (.cells #[.slice A1 n1 c1] 29); have x1 := Lib.hid (bx_row w1 (.slice A1 n1 c1) 29); have o2 := Lib.hid (o1.below kk); have b2 := b1.trans (kk.mono b1.size); have bx1 := Lib.hid (bx0.out.step b2); clear o1 b1 b2 kk hc0; have hx1 := x1.out.cell (i := 0) (by omega))
      | (go_at_call 159; refine (specHeadOf_any A n c ts A' n' c' ss A1 n1 c1 _ _ (hh.out.up bx1.out.below) (hh'.out.up' bx1.out.below) o2.out.votes hn hn' (by have := o2.out.len; have := hlen.out; omega)).mono ?_; rw [hp.out, ← hr.out]; rintro e w3 ⟨rfl, b3⟩; have bx3 := Lib.hid (bx1.out.step b3); clear b3))
    go_ret2
    exact ⟨rfl, bx3.out.below⟩

end Go.Proofs.Ytlobjfipefibaab
