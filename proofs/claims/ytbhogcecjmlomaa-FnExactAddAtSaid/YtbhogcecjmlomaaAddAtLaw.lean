/- What is proved here: the law on AddAt returns true at every argument, and writes nothing that was there. No conditions but that the cells are 64-bit integers. -/
import Derived.Test.YtbhogcecjmlomaaSumsOfLaw
import Derived.Test.YtbhogcecjmlomaaFenAddM
import Derived.Deep.Cut
import Derived.Deep.CutRange
namespace Go.Proofs.Ytbhogcecjmlomaa
open Go.RowKit

theorem addR_len (xs : List Int) (k b : Int) : (addR xs k b).length ≤ xs.length := by
  unfold addR
  split
  · rw [addC_len]; exact Nat.le_refl _
  · exact Nat.zero_le _

set_option maxRecDepth 100000 in
set_option maxHeartbeats 6400000 in
theorem lawAddAt (A : Option Addr) (n c : Nat) (xs : List Int) (k b : Int) (w : World) (h : IntsAt w w.heap.size A n xs) (hn : n ≤ 9223372036854775807) (hi : I64s xs) :
    Calls Try.prog 9 #[.agg #[.slice A n c], .int .i64 k, .int .i64 b] w fun e w' => e = .returned (.bool true) ∧ Below w.heap.size w w' := by
  have hlen := Lib.hid (show (addR xs k b).length ≤ n by rw [← h.1]; exact addR_len xs k b)
  have hr := Lib.hid h; clear h
  have hi' := Lib.hid hi; clear hi
  have hq0 : (addOk xs k b != addOk xs k b) = false := by simp
  go_enter Try.func9, Try.ntmps9
  go_wp2_with fail
  refine (szSums_any A n c _ hn).mono ?_
  rintro e w1 ⟨r, rfl, hr0, b1⟩
  have v1 := Lib.hid ((Boxed.start w (.slice A n c) 72).step b1)
  have hc1 := v1.out.cell
  clear b1
  by_cases hrr : 0 ≤ r
  · have hm := hr0 hrr
    have hrn : ¬ r < 0 := by omega
    clear hr0
    go_wp2_with fail
    refine (toSums_any A n c xs _ (hr.out.up v1.out.below) hm).mono ?_
    rintro e w2 ⟨g2, rfl, o2, b2⟩
    have o2' := Lib.hid o2
    have v2 := Lib.hid (v1.out.step b2)
    clear o2 b2 hc1 v1
    go_wp2_with fail
    refine (specAddAt_any _ n n xs k b _ o2'.out.ints hm hi'.out).mono ?_
    rintro e w3 ⟨A0, n0, c0, rfl, o3, b3⟩
    have hn0 : n0 ≤ 1048576 := by rw [← o3.len]; exact Nat.le_trans hlen.out hm
    have o3' := Lib.hid o3
    have v3 := Lib.hid (v2.out.step b3)
    have z3 := Lib.hid (Boxed.start w3 (.slice A0 n0 c0) 53)
    have hc3 := (v3.out.step z3.out.below).cell
    clear o2' b3 v2 o3
    go_wp2_with fail
    refine (toSums_any A n c xs _ (hr.out.up (v3.out.step z3.out.below).below) hm).mono ?_
    rintro e w4 ⟨g4, rfl, o4, b4⟩
    have z4 := Lib.hid (z3.out.step b4)
    have o4' := Lib.hid (show OwnAt w4 (w3.heap.size + 1) (some ⟨g4, 0, none⟩) n xs from o4.fewer (by simp))
    have hg4 : g4 < w4.heap.size := (o4.low _ rfl).2
    have hg3 : w3.heap.size + 1 ≤ g4 := (o4'.out.low _ rfl).1
    clear o4 b4 hc3 z3
    have k4 : Below w4.heap.size w4 (w4.alloc (.cells #[.slice (some ⟨g4, 0, none⟩) n n] 53)) := box_below w4 _
    have z4b := Lib.hid (z4.out.step k4)
    have x4 := Lib.hid (o4'.out.below k4)
    have rX4 := Lib.hid (row_box w4 (.slice (some ⟨g4, 0, none⟩) n n) 53)
    clear k4 z4 o4'
    go_wp2_with fail
    refine (addAt_any _ n n xs k b _ x4.out.ints hm).mono ?_
    rintro e w5 ⟨A6, n6, c6, rfl, g5, b5⟩
    have hn6 : n6 ≤ 1048576 := by rw [← g5.len]; exact Nat.le_trans hlen.out hm
    have hs45 : w4.heap.size + 1 ≤ w5.heap.size := by have := b5.size; simpa using this
    have g5lt := Lib.hid (fun ad (e : A6 = some ad) => (g5.low ad e).2)
    have g5' := Lib.hid (show OwnAt w5 (w4.heap.size + 1) A6 n6 (addR xs k b) from g5.fewer (by simp))
    have k5 : Below w5.heap.size w5 (w5.alloc (.cells #[.slice A6 n6 c6] 53)) := box_below w5 _
    have z5 := Lib.hid ((z4b.out.step b5).step k5)
    have x5 := Lib.hid ((x4.out.below b5).below k5)
    have rX5 := Lib.hid (rowIs_below (rowIs_below rX4.out b5 (by simp)) k5 (by omega))
    have gg5 := Lib.hid (g5'.out.below k5)
    have rG5 := Lib.hid (row_box w5 (.slice A6 n6 c6) 53)
    have hcP5 := z5.out.cell
    have i5 := Lib.hid (o3'.out.below z5.out.below)
    clear g5 b5 k5 z4b x4 rX4 g5'
    go_wp2_with fail
    refine (eqSums_any A6 A0 n6 n0 c6 c0 (addR xs k b) _ gg5.out.ints i5.out.ints hn6 hn0).mono ?_
    rintro e w6 ⟨rfl, b6⟩
    have z6 := Lib.hid (z5.out.step b6)
    have x6 := Lib.hid (x5.out.below b6)
    have g6 := Lib.hid (gg5.out.below b6)
    have rX6 := Lib.hid (rowIs_below rX5.out b6 (by simp; omega))
    have rG6 := Lib.hid (rowIs_below rG5.out b6 (by simp))
    have hs56 : w5.heap.size + 1 ≤ w6.heap.size := by have := b6.size; simpa using this
    have v6 := Lib.hid (v3.out.step z6.out.below)
    have hcA := v6.out.cell
    have hcX := rX6.out.cell (i := 0) (by omega)
    clear b6 z5 x5 gg5 rX5 rG5 hcP5 i5
    have hT := Lib.hid (toSums_any A n c xs w6.drew (show IntsAt w6.drew w6.drew.heap.size A n xs from ⟨(hr.out.up v6.out.below).1, (hr.out.up v6.out.below).2⟩) hm)
    go_upto_region 10 with fail
    go_cut [53] from 49 to 53 (fun s wx => s = .bool false ∧ Hid (Below w6.heap.size w6 wx))
    case first =>
      go_region_with (first
        | (go_at_call 68
           refine hT.out.mono ?_
           rintro e w7 ⟨g7, rfl, o7, b7⟩
           have b7' := Lib.hid (show Below w6.heap.size w6 w7 from ⟨b7.os, b7.tape, b7.output, b7.size, b7.block⟩)
           have o7' := Lib.hid o7
           have hcA7 := (v6.out.step b7'.out).cell
           have hcX7 := (rowIs_below rX6.out b7'.out (by omega)).cell (i := 0) (by omega)
           clear o7 b7)
        | (go_at_call 62
           refine (eqSums_any _ _ n n n n xs _ ?_ ?_ hm hm).mono ?_
           · exact (x6.out.below b7'.out).ints
           · exact o7'.out.ints
           rintro e w8 ⟨rfl, b8⟩
           have b8' := Lib.hid (b7'.out.trans ((show Below w7.heap.size w7 w8 from ⟨b8.os, b8.tape, b8.output, b8.size, b8.block⟩).mono b7'.out.size))
           clear b8))
      all_goals
        go_wp2_with fail
        go_meet
        case rel => exact ⟨rfl, b8'⟩
    case rest =>
      obtain ⟨rfl, k8⟩ := hcut
      have z8 := Lib.hid (z6.out.step k8.out)
      have x8 := Lib.hid (x6.out.below k8.out)
      have g8 := Lib.hid (g6.out.below k8.out)
      have rX8 := Lib.hid (rowIs_below rX6.out k8.out (by omega))
      have rG8 := Lib.hid (rowIs_below rG6.out k8.out (by omega))
      have hs58 : w5.heap.size + 1 ≤ wc.heap.size := by have := k8.out.size; omega
      have hcX8 := rX8.out.cell (i := 0) (by omega)
      clear k8 z6 x6 g6 rX6 rG6 v6 hcA hcX hT
      go_wp2_with fail
      refine (markSums_any _ n n (w3.heap.size + 1) xs 1 _ x8.out hm (by decide) (by decide)).mono ?_
      rintro e w9 ⟨rfl, _, only9⟩
      have z9 := Lib.hid (z8.out.stepTo (only9.below (B := w3.heap.size + 1) (by have := z8.out.size; omega) (fun ad e => by cases e; exact hg3)))
      have g9 := Lib.hid (g8.out.onlyUp only9 (fun ad ad' e e' => by cases e'; have := (g8.out.low ad e).1; show ad.block ≠ g4; omega))
      have rG9 := Lib.hid (rowIs_onlyUp rG8.out only9 (fun ad e => by cases e; show w5.heap.size ≠ g4; omega))
      have hs59 : w5.heap.size + 1 ≤ w9.heap.size := by have := only9.size; omega
      have hk0 : ¬ (1 + (n : Int)) < 0 := by omega
      have hcP9 := z9.out.cell
      have hcG9 := rG9.out.cell (i := 0) (by omega)
      have i9 := Lib.hid (o3'.out.below z9.out.below)
      clear only9 z8 x8 g8 rX8 rG8 hcX8
      go_wp2_with fail
      refine (eqSums_any A6 A0 n6 n0 c6 c0 (addR xs k b) _ g9.out.ints i9.out.ints hn6 hn0).mono ?_
      rintro e w10 ⟨rfl, b9⟩
      have z10 := Lib.hid (z9.out.step b9)
      have g10 := Lib.hid (g9.out.below b9)
      have rG10 := Lib.hid (rowIs_below rG9.out b9 (by omega))
      have hs510 : w5.heap.size + 1 ≤ w10.heap.size := by have := b9.size; omega
      have hcG10 := rG10.out.cell (i := 0) (by omega)
      clear b9 z9 g9 rG9 hcP9 hcG9 i9 hk0
      go_wp2_with fail
      refine (markSums_any A6 n6 c6 (w4.heap.size + 1) (addR xs k b) 1 _ g10.out hn6 (by decide) (by decide)).mono ?_
      rintro e w11 ⟨rfl, g11, only11⟩
      have z11 := Lib.hid (z10.out.stepTo (only11.below (B := w3.heap.size + 1) (by omega) (fun ad e => by have := (g10.out.low ad e).1; omega)))
      have rG11 := Lib.hid (rowIs_onlyUp rG10.out only11 (fun ad e => by have := (g5lt.out ad e); omega))
      have g11' := Lib.hid g11
      have hs511 : w5.heap.size + 1 ≤ w11.heap.size := by have := only11.size; omega
      have hcG11 := rG11.out.cell (i := 0) (by omega)
      clear only11 g11 z10 g10 rG10 hcG10
      go_wp2_with fail
      refine (heldSums_any A6 n6 c6 1 _ g11'.out.ints hn6 (by decide) (by decide)).mono ?_
      rintro e w12 ⟨rfl, b12⟩
      have z12 := Lib.hid (z11.out.step b12)
      have g12 := Lib.hid (g11'.out.below b12)
      have rG12 := Lib.hid (rowIs_below rG11.out b12 (by omega))
      have hs512 : w5.heap.size + 1 ≤ w12.heap.size := by have := b12.size; omega
      have hlt0 : ¬ (1 + (n6 : Int)) < 0 := by omega
      have hne : ((1 + (n6 : Int)) != (1 + (n6 : Int))) = false := by simp
      have v12 := Lib.hid (v3.out.step z12.out.below)
      have hcA := v12.out.cell
      clear b12 z11 g11' rG11 hcG11
      go_wp2_with fail
      refine (toSums_any A n c xs _ (hr.out.up v12.out.below) hm).mono ?_
      rintro e w13 ⟨g13, rfl, o13, b13⟩
      have z13 := Lib.hid (z12.out.step b13)
      have gg13 := Lib.hid (g12.out.below b13)
      have rG13 := Lib.hid (rowIs_below rG12.out b13 (by omega))
      have hs513 : w5.heap.size + 1 ≤ w13.heap.size := by have := b13.size; omega
      have o13' := Lib.hid o13
      clear o13 b13 z12 g12 rG12 v12 hcA
      go_wp2_with fail
      refine (addAt_any _ n n xs k b _ o13'.out.ints hm).mono ?_
      rintro e w14 ⟨A13, n13, c13, rfl, o14, b14⟩
      have hn13 : n13 ≤ 1048576 := by rw [← o14.len]; exact Nat.le_trans hlen.out hm
      have k15 : Below w14.heap.size w14 (w14.alloc (.cells #[.slice A13 n13 c13] 53)) := box_below w14 _
      have hs514 : w5.heap.size + 1 ≤ w14.heap.size := by have := b14.size; omega
      have z15 := Lib.hid ((z13.out.step b14).step k15)
      have g15 := Lib.hid ((gg13.out.below b14).below k15)
      have rG15 := Lib.hid (rowIs_below (rowIs_below rG13.out b14 (by omega)) k15 (by omega))
      have o15 := Lib.hid (o14.below k15)
      have hcP15 := z15.out.cell
      have i15 := Lib.hid (o3'.out.below z15.out.below)
      clear o14 b14 k15 z13 gg13 rG13 o13'
      go_wp2_with fail
      refine (eqSums_any A13 A0 n13 n0 c13 c0 (addR xs k b) _ o15.out.ints i15.out.ints hn13 hn0).mono ?_
      rintro e w15 ⟨rfl, b16⟩
      have z16 := Lib.hid (z15.out.step b16)
      have g16 := Lib.hid (g15.out.below b16)
      have rG16 := Lib.hid (rowIs_below rG15.out b16 (by simp; omega))
      have hcG16 := rG16.out.cell (i := 0) (by omega)
      clear b16 z15 g15 rG15 o15 hcP15 i15
      go_wp2_with fail
      refine (heldSums_any A6 n6 c6 1 _ g16.out.ints hn6 (by decide) (by decide)).mono ?_
      rintro e w16 ⟨rfl, b17⟩
      have v17 := Lib.hid (v3.out.step (z16.out.step b17).below)
      clear b17
      go_wp2_with fail
      go_ret
      exact ⟨rfl, v17.out.below⟩
  · have hrn : r < 0 := by omega
    clear hr0
    go_wp2_with fail
    go_ret
    exact ⟨rfl, v1.out.below⟩
end Go.Proofs.Ytbhogcecjmlomaa
