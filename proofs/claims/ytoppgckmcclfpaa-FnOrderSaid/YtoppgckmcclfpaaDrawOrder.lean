/- What is proved here: what the model's draws of the arguments of SpansOf and BelowOf return, at every slice of bytes. No conditions beside the slice's length. -/
import Derived.Test.YtoppgckmcclfpaaDrawTrees
namespace Go.Proofs.Ytoppgckmcclfpaa
open Go.RowKit

theorem drawGood_ord (A : Option Addr) (n c : Nat) (w : World) (h : BytesIn w A n) (hn : n ≤ 1048576) :
    Calls Try.prog 92 #[.slice A n c] w (DrawBlk w) := by
  go_enter Try.func92, Try.ntmps92
  go_wp2_with fail
  refine (newTree_any A n c w h hn).mono ?_
  rintro e w1 ⟨A1, n1, c1, ts, rfl, h1, h2, hd⟩
  have hd1 := Lib.hid hd; clear hd
  go_wp2_with fail
  go_ret
  exact ⟨_, _, _, ts, rfl, hd1.out.blk, h2, hd1.out.bel⟩
theorem drawSpans_any (A : Option Addr) (n c : Nat) (w : World) (h : BytesIn w A n) (hn : n ≤ 1048576) :
    Calls Try.prog 41 #[.slice A n c] w (DrawBlk w) := by
  go_enter Try.func41, Try.ntmps41
  go_wp2_with fail
  refine (drawGood_ord A n c w h hn).mono ?_
  rintro e w1 ⟨A1, n1, c1, ts, rfl, h1, h2, h3⟩
  have h1' := Lib.hid h1; clear h1
  go_wp2_with fail
  go_ret
  exact ⟨_, _, _, ts, rfl, h1'.out, h2, h3⟩
theorem drawBelow_any (A : Option Addr) (n c : Nat) (w : World) (h : BytesIn w A n) (hn : n ≤ 1048576) :
    Calls Try.prog 50 #[.slice A n c] w (DrawBlk2 w) := by
  go_enter Try.func50, Try.ntmps50
  go_wp2_with fail
  refine (drawWay_any A n c w h hn).mono ?_
  rintro e w1 ⟨A1, n1, c1, ts, x, rfl, h1, h2, h3⟩
  have h1' := Lib.hid h1; clear h1
  go_wp2_with fail
  go_ret2
  exact ⟨_, _, _, ts, x, rfl, h1'.out, h2, h3⟩
end Go.Proofs.Ytoppgckmcclfpaa
