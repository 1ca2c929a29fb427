/- What is proved here: what the model's draws of the arguments of LeapsOf, LeavesOf, AncestorOf and HeadAt return, at every slice of bytes; the law's comparison of rows. No conditions beside the slice's length. -/
import Derived.Test.YtoppgckmcclfpaaDrawTrees
import Derived.Test.YtoppgckmcclfpaaRowsWalks
namespace Go.Proofs.Ytoppgckmcclfpaa
open Go.RowKit

theorem drawGoodT_any (A : Option Addr) (n c : Nat) (w : World) (h : BytesIn w A n) (hn : n ≤ 1048576) :
    Calls Try.prog 92 #[.slice A n c] w (DrawBlk w) := by
  go_enter Try.func92, Try.ntmps92
  go_wp2_with fail
  refine (newTree_any A n c w h hn).mono ?_
  rintro e w1 ⟨A1, n1, c1, ts, rfl, h1, h2, hd⟩
  have hd1 := Lib.hid hd; clear hd
  go_wp2_with fail
  go_ret
  exact ⟨_, _, _, ts, rfl, hd1.out.blk, h2, hd1.out.bel⟩
theorem drawLeaps_any (A : Option Addr) (n c : Nat) (w : World) (h : BytesIn w A n) (hn : n ≤ 1048576) :
    Calls Try.prog 28 #[.slice A n c] w (DrawBlk w) := by
  go_enter Try.func28, Try.ntmps28
  go_wp2_with fail
  refine (drawGoodT_any A n c w h hn).mono ?_
  rintro e w1 ⟨A1, n1, c1, ts, rfl, h1, h2, h3⟩
  have h1' := Lib.hid h1; clear h1
  go_wp2_with fail
  go_ret
  exact ⟨_, _, _, ts, rfl, h1'.out, h2, h3⟩
theorem drawLeaves_any (A : Option Addr) (n c : Nat) (w : World) (h : BytesIn w A n) (hn : n ≤ 1048576) :
    Calls Try.prog 38 #[.slice A n c] w (DrawBlk w) := by
  go_enter Try.func38, Try.ntmps38
  go_wp2_with fail
  refine (drawGoodT_any A n c w h hn).mono ?_
  rintro e w1 ⟨A1, n1, c1, ts, rfl, h1, h2, h3⟩
  have h1' := Lib.hid h1; clear h1
  go_wp2_with fail
  go_ret
  exact ⟨_, _, _, ts, rfl, h1'.out, h2, h3⟩

set_option maxRecDepth 100000 in
set_option maxHeartbeats 800000 in
theorem drawAnc_any (A : Option Addr) (n c : Nat) (w : World) (h : BytesIn w A n) (hn : n ≤ 1048576) :
    Calls Try.prog 33 #[.slice A n c] w (DrawBlk3 w) := by
  go_enter Try.func33, Try.ntmps33
  go_wp2_with fail
  refine (newTree_any A n c w h hn).mono ?_
  rintro e w1 ⟨A1, n1, c1, ts, rfl, h1, h2, hd⟩
  have hd1 := Lib.hid hd; clear hd
  go_wp2_with fail
  refine (pick_any w.heap.size (w.heap.size + 1) 200 _ w1 hd1.out.cur (by decide) (by omega)).mono ?_
  rintro e w2 ⟨x, rfl, x0, x1, c2, o2⟩
  have hd2 := Lib.hid (hd1.out.only o2 c2)
  have hx : x ≤ 26 := by omega
  clear c2 o2 x1
  go_wp2_with fail
  refine (pick_any w.heap.size (w.heap.size + 1) 202 _ w2 hd2.out.cur (by decide) (by decide)).mono ?_
  rintro e w3 ⟨y, rfl, y0, y1, c3, o3⟩
  have hd3 := Lib.hid (hd2.out.only o3 c3)
  have hy : y ≤ 8 := by omega
  clear c3 o3 y1
  go_wp2_with fail
  refine (pick_any w.heap.size (w.heap.size + 1) 204 _ w3 hd3.out.cur (by decide) (by decide)).mono ?_
  rintro e w4 ⟨z, rfl, z0, z1, c4, o4⟩
  have hd4 := Lib.hid (hd3.out.only o4 c4)
  have hz : z ≤ 30 := by omega
  clear c4 o4 z1
  go_wp2_with fail
  refine (pick_any w.heap.size (w.heap.size + 1) 206 _ w4 hd4.out.cur (by decide) (by decide)).mono ?_
  rintro e w5 ⟨v, rfl, v0, v1, c5, o5⟩
  have hd5 := Lib.hid (hd4.out.only o5 c5)
  have hv : v ≤ 8 := by omega
  clear c5 o5 v1
  go_wp2_with fail
  go_ret3
  exact ⟨_, _, _, ts, _, _, rfl, hd5.out.blk, h2, hd5.out.bel⟩

set_option maxRecDepth 100000 in
set_option maxHeartbeats 800000 in
theorem drawHead_any (A : Option Addr) (n c : Nat) (w : World) (h : BytesIn w A n) (hn : n ≤ 1048576) :
    Calls Try.prog 35 #[.slice A n c] w (DrawBlk3 w) := by
  go_enter Try.func35, Try.ntmps35
  go_wp2_with fail
  refine (newTree_any A n c w h hn).mono ?_
  rintro e w1 ⟨A1, n1, c1, ts, rfl, h1, h2, hd⟩
  have hd1 := Lib.hid hd; clear hd
  go_wp2_with fail
  refine (pick_any w.heap.size (w.heap.size + 1) 200 _ w1 hd1.out.cur (by decide) (by omega)).mono ?_
  rintro e w2 ⟨x, rfl, x0, x1, c2, o2⟩
  have hd2 := Lib.hid (hd1.out.only o2 c2)
  have hx : x ≤ 26 := by omega
  clear c2 o2 x1
  go_wp2_with fail
  refine (pick_any w.heap.size (w.heap.size + 1) 202 _ w2 hd2.out.cur (by decide) (by decide)).mono ?_
  rintro e w3 ⟨y, rfl, y0, y1, c3, o3⟩
  have hd3 := Lib.hid (hd2.out.only o3 c3)
  have hy : y ≤ 8 := by omega
  clear c3 o3 y1
  go_wp2_with fail
  refine (pick_any w.heap.size (w.heap.size + 1) 204 _ w3 hd3.out.cur (by decide) (by decide)).mono ?_
  rintro e w4 ⟨z, rfl, z0, z1, c4, o4⟩
  have hd4 := Lib.hid (hd3.out.only o4 c4)
  have hz : z ≤ 30 := by omega
  clear c4 o4 z1
  go_wp2_with fail
  refine (pick_any w.heap.size (w.heap.size + 1) 206 _ w4 hd4.out.cur (by decide) (by decide)).mono ?_
  rintro e w5 ⟨v, rfl, v0, v1, c5, o5⟩
  have hd5 := Lib.hid (hd4.out.only o5 c5)
  have hv : v ≤ 8 := by omega
  clear c5 o5 v1
  go_wp2_with fail
  go_ret3
  exact ⟨_, _, _, ts, _, _, rfl, hd5.out.blk, h2, hd5.out.bel⟩
end Go.Proofs.Ytoppgckmcclfpaa
