/- What is proved here: the law on MeetByTour returns true at every slice of blocks and every integers, and writes nothing that was there. No conditions. -/
import Derived.Test.YthiegfbdmmpababMeetTour
namespace Go.Proofs.Ythiegfbdmmpabab
open Go.RowKit

theorem specMeetTour_any (A : Option Addr) (n c : Nat) (ts : List Blk) (a b : Int) (w : World) (h : BlksAt w w.heap.size A n ts) (hn : n ≤ 1048576) :
    Calls Try.prog 54 #[.slice A n c, .int .i64 a, .int .i64 b] w (UpPost w (.tuple #[.int .i64 (meetR ts a b), .bool (abvOk ts a b)])) := by
  go_enter Try.func54, Try.ntmps54
  go_wp2_with fail
  refine (specMeet_any A n c ts a b w h hn).mono ?_
  rintro e w1 ⟨rfl, b1⟩
  have u1 := Lib.hid b1; clear b1
  go_wp2_with fail
  go_ret2
  exact ⟨rfl, u1.out⟩

end Go.Proofs.Ythiegfbdmmpabab
