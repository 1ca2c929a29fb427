/- What is proved here: what the model's GoodSums and ListOf return, at every list of cells. No conditions but the cells' number. -/
import Derived.Test.YtbhogcecjmlomaaFenSpec
namespace Go.Proofs.Ytbhogcecjmlomaa
open Go.RowKit

set_option maxRecDepth 100000 in
theorem specGoodSums_any (A : Option Addr) (n c : Nat) (xs : List Int) (w : World) (h : IntsAt w w.heap.size A n xs) (hn : n ≤ 1048576) :
    Calls Try.prog 50 #[.agg #[.slice A n c]] w fun e w' => e = .returned (.bool (goodM xs)) ∧ Below w.heap.size w w' := by
  have hr := Lib.hid h; clear h
  go_enter Try.func50, Try.ntmps50
  go_wp2_with fail
  refine (l5Back_any A n c xs _ (hr.out.box _) hn).mono ?_
  rintro e w1 ⟨A1, n1, c1, rfl, o1, b1⟩
  have b1' := Lib.hid (((box_below w _).trans (b1.mono (box_below w _).size)))
  clear o1 b1
  go_wp2_with fail
  go_ret
  exact ⟨rfl, b1'.out⟩

set_option maxRecDepth 100000 in
theorem specListOf_any (A : Option Addr) (n c : Nat) (xs : List Int) (w : World) (h : IntsAt w w.heap.size A n xs) (hn : n ≤ 1048576) :
    Calls Try.prog 60 #[.agg #[.slice A n c]] w (RetOwn w (goodM xs) (backR xs)) := by
  have hr := Lib.hid h; clear h
  go_enter Try.func60, Try.ntmps60
  go_wp2_with fail
  refine (l5Back_any A n c xs _ (hr.out.box _) hn).mono ?_
  rintro e w1 ⟨A1, n1, c1, rfl, o1, b1⟩
  have b1' := Lib.hid (((box_below w _).trans (b1.mono (box_below w _).size)))
  have o1' := Lib.hid (o1.fewer (box_below w _).size)
  clear o1 b1
  go_wp2_with fail
  go_ret2
  exact ⟨A1, n1, c1, rfl, o1'.out, b1'.out⟩

/-- Of good cells, model and program give one list. -/
theorem back_eq {xs : List Int} (hr : I64s xs) : backR xs = listR xs := by
  unfold backR listR
  rw [good_eq hr]
  by_cases h : goodS xs = true
  · rw [if_pos h, if_pos h]
    obtain ⟨_, h2, _, _⟩ := goodS_ok hr h
    refine ext_get (by rw [wts_len, wtsW_len]) (fun k hk => ?_)
    rw [wts_len] at hk
    rw [wts_get hk, wtsW_get hk, h2 k hk]
  · rw [if_neg h, if_neg h]
end Go.Proofs.Ytbhogcecjmlomaa
