/- What is proved here: what the laws' helpers on Sums return: szSums, eqSums. No conditions but the cells' number. -/
import Derived.Test.YtbhogcecjmlomaaFenFns
import Derived.Test.YtbhogcecjmlomaaRowsCopy
namespace Go.Proofs.Ytbhogcecjmlomaa
open Go.RowKit

set_option maxRecDepth 100000 in
theorem szSums_any (A : Option Addr) (n c : Nat) (w : World) (hn : n ≤ 9223372036854775807) :
    Calls Try.prog 67 #[.agg #[.slice A n c], .int .i64 1048576] w fun e w' => ∃ r : Int, e = .returned (.int .i64 r) ∧ (0 ≤ r → n ≤ 1048576) ∧ Below w.heap.size w w' := by
  by_cases h : (n : Int) ≤ 1048576
  · have hc := Lib.hid (fun W => szInts_any A n c 1048576 W hn (by decide) (by decide))
    rw [if_pos h] at hc
    go_enter Try.func67, Try.ntmps67
    go_wp2_with fail
    refine (hc.out _).mono ?_
    rintro e w' ⟨rfl, rfl⟩
    go_wp2_with fail
    go_ret
    exact ⟨_, rfl, fun _ => by omega, box_below w _⟩
  · have hc := Lib.hid (fun W => szInts_any A n c 1048576 W hn (by decide) (by decide))
    rw [if_neg h] at hc
    go_enter Try.func67, Try.ntmps67
    go_wp2_with fail
    refine (hc.out _).mono ?_
    rintro e w' ⟨rfl, rfl⟩
    go_wp2_with fail
    go_ret
    exact ⟨_, rfl, fun h => absurd h (by decide), box_below w _⟩

set_option maxRecDepth 100000 in
theorem eqSums_any (A A' : Option Addr) (n n' c c' : Nat) (xs : List Int) (w : World) (h : IntsAt w w.heap.size A n xs) (h' : IntsAt w w.heap.size A' n' xs) (hn : n ≤ 1048576) (hn' : n' ≤ 1048576) :
    Calls Try.prog 62 #[.agg #[.slice A n c], .agg #[.slice A' n' c']] w fun e w' => e = .returned (.bool true) ∧ Below w.heap.size w w' := by
  have hr := Lib.hid h; have hr' := Lib.hid h'; clear h h'
  have hq : eqB xs xs = true := eqB_yes rfl (fun _ _ => rfl)
  have hb2 := Lib.hid (fun (o p : Obj) => ((box_below w o).alloc (by simp) p : Below w.heap.size w ((w.alloc o).alloc p)))
  go_enter Try.func62, Try.ntmps62
  go_wp2_with fail
  refine (eqIntS_any A A' n n' c c' _ xs xs _ (hr.out.up (hb2.out _ _)) (hr'.out.up (hb2.out _ _)) hn hn').mono ?_
  rintro e w1 ⟨rfl, d, rfl⟩
  rw [hq]
  go_wp2_with fail
  go_ret
  exact ⟨rfl, below_drewN (hb2.out _ _) d⟩
end Go.Proofs.Ytbhogcecjmlomaa
