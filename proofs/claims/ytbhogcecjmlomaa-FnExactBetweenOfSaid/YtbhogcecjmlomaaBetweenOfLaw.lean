/- What is proved here: the law on BetweenOf returns true at every argument, and writes nothing that was there. No conditions but that the cells are 64-bit integers. -/
import Derived.Test.YtbhogcecjmlomaaFenBox
namespace Go.Proofs.Ytbhogcecjmlomaa
open Go.RowKit

set_option maxRecDepth 100000 in
set_option maxHeartbeats 1600000 in
theorem lawBetweenOf (A : Option Addr) (n c : Nat) (xs : List Int) (f t : Int) (w : World) (h : IntsAt w w.heap.size A n xs) (hn : n ≤ 9223372036854775807) (hi : I64s xs) :
    Calls Try.prog 13 #[.agg #[.slice A n c], .int .i64 f, .int .i64 t] w fun e w' => e = .returned (.bool true) ∧ Below w.heap.size w w' := by
  have hr := Lib.hid h; clear h
  have hge := Lib.hid (good_eq hi)
  have hi' := Lib.hid hi; clear hi
  have hq0 : (betOk xs f t != betOk xs f t) = false := by simp
  have hq1 : (betR xs f t != betR xs f t) = false := by simp
  go_enter Try.func13, Try.ntmps13
  go_wp2_with fail
  refine (szSums_any A n c _ hn).mono ?_
  rintro e w1 ⟨r, rfl, hr0, b1⟩
  have v1 := Lib.hid ((Boxed.start w (.slice A n c) 72).step b1)
  have hc1 := v1.out.cell
  clear b1
  by_cases hrr : 0 ≤ r
  · have hm := hr0 hrr
    have hrn : ¬ r < 0 := by omega
    clear hr0
    go_wp2_with fail
    refine (toSums_any A n c xs _ (hr.out.up v1.out.below) hm).mono ?_
    rintro e w2 ⟨g2, rfl, o2, b2⟩
    have o2' := Lib.hid o2
    have v2 := Lib.hid (v1.out.step b2)
    clear o2 b2 hc1 v1
    go_wp2_with fail
    refine (specBetween_any _ n n xs f t _ o2'.out.ints hm hi'.out).mono ?_
    rintro e w3 ⟨rfl, b3⟩
    have v3 := Lib.hid (v2.out.step b3)
    have hc3 := v3.out.cell
    clear o2' b3 v2
    go_wp2_with fail
    refine (toSums_any A n c xs _ (hr.out.up v3.out.below) hm).mono ?_
    rintro e w4 ⟨g4, rfl, o4, b4⟩
    have o4' := Lib.hid o4
    have v4 := Lib.hid (v3.out.step b4)
    clear o4 b4 hc3 v3
    go_wp2_with fail
    refine (between_any _ n n xs f t _ (o4'.out.ints.box _) hm).mono ?_
    rintro e w5 ⟨rfl, b5⟩
    have z5 := Lib.hid ((Boxed.start w4 (.slice (some ⟨g4, 0, none⟩) n n) 53).step b5)
    have v5 := Lib.hid (v4.out.step z5.out.below)
    have o5 := Lib.hid (o4'.out.below z5.out.below)
    have hcA := v5.out.cell
    have hcX := z5.out.cell
    clear b5 v4 o4'
    have hT := Lib.hid (toSums_any A n c xs w5.drew (show IntsAt w5.drew w5.drew.heap.size A n xs from ⟨(hr.out.up v5.out.below).1, (hr.out.up v5.out.below).2⟩) hm)
    go_wp2_with fail
    go_region_with (first
      | (go_at_call 68
         refine hT.out.mono ?_
         rintro e w6 ⟨g6, rfl, o6, b6⟩
         have b6' := Lib.hid (show Below w5.heap.size w5 w6 from ⟨b6.os, b6.tape, b6.output, b6.size, b6.block⟩)
         have o6' := Lib.hid o6
         have hcA6 := (v5.out.step b6'.out).cell
         have hcX6 := (z5.out.step b6'.out).cell
         clear o6 b6)
      | (go_at_call 62
         refine (eqSums_any _ _ n n n n xs _ ?_ ?_ hm hm).mono ?_
         · exact (o5.out.below b6'.out).ints
         · exact o6'.out.ints
         rintro e w7 ⟨rfl, b7⟩
         have v7 := Lib.hid ((v5.out.step b6'.out).step (show Below w6.heap.size w6 w7 from ⟨b7.os, b7.tape, b7.output, b7.size, b7.block⟩))
         clear b7))
    all_goals
      go_wp2_with fail
      go_ret
      exact ⟨rfl, v7.out.below⟩
  · have hrn : r < 0 := by omega
    clear hr0
    go_wp2_with fail
    go_ret
    exact ⟨rfl, v1.out.below⟩
end Go.Proofs.Ytbhogcecjmlomaa
