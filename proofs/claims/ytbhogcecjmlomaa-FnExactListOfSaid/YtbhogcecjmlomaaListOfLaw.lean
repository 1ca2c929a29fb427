/- What is proved here: the law on ListOf returns true at every argument, and writes nothing that was there. No conditions but that the cells are 64-bit integers. -/
import Derived.Test.YtbhogcecjmlomaaFenBox
import Derived.Deep.Cut
import Derived.Deep.CutRange
namespace Go.Proofs.Ytbhogcecjmlomaa
open Go.RowKit

theorem listR_len (xs : List Int) : (listR xs).length ≤ xs.length := by
  unfold listR
  split
  · rw [wtsW_len]; exact Nat.le_refl _
  · exact Nat.zero_le _

set_option maxRecDepth 100000 in
set_option maxHeartbeats 6400000 in
theorem lawListOf (A : Option Addr) (n c : Nat) (xs : List Int) (w : World) (h : IntsAt w w.heap.size A n xs) (hn : n ≤ 9223372036854775807) (hi : I64s xs) :
    Calls Try.prog 11 #[.agg #[.slice A n c]] w fun e w' => e = .returned (.bool true) ∧ Below w.heap.size w w' := by
  have hlen := Lib.hid (show (listR xs).length ≤ n by rw [← h.1]; exact listR_len xs)
  have hr := Lib.hid h; clear h
  have hge := Lib.hid (good_eq hi)
  have hbe := Lib.hid (back_eq hi)
  clear hi
  have hq0 : (goodS xs != goodS xs) = false := by simp
  have hqr : eqB (listR xs) (listR xs) = true := eqB_yes rfl (fun _ _ => rfl)
  go_enter Try.func11, Try.ntmps11
  go_wp2_with fail
  refine (szSums_any A n c _ hn).mono ?_
  rintro e w1 ⟨r, rfl, hr0, b1⟩
  have v1 := Lib.hid ((Boxed.start w (.slice A n c) 72).step b1)
  have hc1 := v1.out.cell
  clear b1
  by_cases hrr : 0 ≤ r
  · have hm := hr0 hrr
    have hrn : ¬ r < 0 := by omega
    clear hr0
    go_wp2_with fail
    refine (toSums_any A n c xs _ (hr.out.up v1.out.below) hm).mono ?_
    rintro e w2 ⟨g2, rfl, o2, b2⟩
    have o2' := Lib.hid o2
    have v2 := Lib.hid (v1.out.step b2)
    clear o2 b2 hc1 v1
    go_wp2_with fail
    refine (specListOf_any _ n n xs _ o2'.out.ints hm).mono ?_
    rintro e w3 ⟨A0, n0, c0, rfl, o3, b3⟩
    rw [hge.out]
    rw [hbe.out] at o3
    have hn0 : n0 ≤ 1048576 := by rw [← o3.len]; exact Nat.le_trans hlen.out hm
    have i0 := Lib.hid o3.ints
    have v3 := Lib.hid (v2.out.step b3)
    have hc3 := v3.out.cell
    clear o2' b3 v2 o3
    go_wp2_with fail
    refine (toSums_any A n c xs _ (hr.out.up v3.out.below) hm).mono ?_
    rintro e w4 ⟨g4, rfl, o4, b4⟩
    have o4' := Lib.hid o4
    have b34 := Lib.hid b4
    have hg4 : g4 < w4.heap.size := (o4.low _ rfl).2
    have hg3 : w3.heap.size ≤ g4 := (o4.low _ rfl).1
    clear o4 b4 hc3
    go_wp2_with fail
    refine (listOf_any _ n n xs _ (o4'.out.ints.box _) hm).mono ?_
    rintro e w5 ⟨A6, n6, c6, rfl, g5, b5⟩
    have hn6 : n6 ≤ 1048576 := by rw [← g5.len]; exact Nat.le_trans hlen.out hm
    have z5 := Lib.hid ((Boxed.start w4 (.slice (some ⟨g4, 0, none⟩) n n) 53).step b5)
    have b35 := Lib.hid (b34.out.trans (z5.out.below.mono b34.out.size))
    have x5 := Lib.hid (o4'.out.below z5.out.below)
    have g5' := Lib.hid (show OwnAt w5 (w4.heap.size + 1) A6 n6 (listR xs) from g5.fewer (by simp))
    have i5 := Lib.hid ((i0.out.below b35.out).more b35.out.size)
    clear b5 g5 o4' b34
    go_wp2_with fail
    refine (eqIntS_any A6 A0 n6 n0 c6 c0 w5.heap.size _ _ w5 g5'.out.ints i5.out hn6 hn0).mono ?_
    rintro e w6 ⟨rfl, d6, hw6⟩
    have k6 : Below w5.heap.size w5 w6 := by rw [hw6]; exact below_drewN (Below.refl _ _) d6
    have z6 := Lib.hid (z5.out.step k6)
    have b36 := Lib.hid (b35.out.trans (k6.mono b35.out.size))
    have x6 := Lib.hid (x5.out.below k6)
    have g6 := Lib.hid (g5'.out.below k6)
    have v6 := Lib.hid (v3.out.step b36.out)
    have hcA := v6.out.cell
    have hcX := z6.out.cell
    clear hw6 k6 z5 b35 x5 g5' i5
    have hT := Lib.hid (toSums_any A n c xs w6.drew (show IntsAt w6.drew w6.drew.heap.size A n xs from ⟨(hr.out.up v6.out.below).1, (hr.out.up v6.out.below).2⟩) hm)
    go_upto_region 10 with fail
    go_cut [45] from 41 to 45 (fun s wx => s = .bool false ∧ Hid (Below w6.heap.size w6 wx))
    case first =>
      go_region_with (first
        | (go_at_call 68
           refine hT.out.mono ?_
           rintro e w7 ⟨g7, rfl, o7, b7⟩
           have b7' := Lib.hid (show Below w6.heap.size w6 w7 from ⟨b7.os, b7.tape, b7.output, b7.size, b7.block⟩)
           have o7' := Lib.hid o7
           have hcA7 := (v6.out.step b7'.out).cell
           have hcX7 := (z6.out.step b7'.out).cell
           clear o7 b7)
        | (go_at_call 62
           refine (eqSums_any _ _ n n n n xs _ ?_ ?_ hm hm).mono ?_
           · exact (x6.out.below b7'.out).ints
           · exact o7'.out.ints
           rintro e w8 ⟨rfl, b8⟩
           have b8' := Lib.hid (b7'.out.trans ((show Below w7.heap.size w7 w8 from ⟨b8.os, b8.tape, b8.output, b8.size, b8.block⟩).mono b7'.out.size))
           clear b8))
      all_goals
        go_wp2_with fail
        go_meet
        case rel => exact ⟨rfl, b8'⟩
    case rest =>
      obtain ⟨rfl, k8⟩ := hcut
      have z8 := Lib.hid (z6.out.step k8.out)
      have b38 := Lib.hid (b36.out.trans (k8.out.mono b36.out.size))
      have x8 := Lib.hid (x6.out.below k8.out)
      have g8 := Lib.hid (g6.out.below k8.out)
      have hcX8 := z8.out.cell
      clear k8 z6 b36 x6 g6 v6 hcA hcX hT
      go_wp2_with fail
      refine (markSums_any _ n n w3.heap.size xs 1 _ x8.out hm (by decide) (by decide)).mono ?_
      rintro e w9 ⟨rfl, _, only9⟩
      have b39 := Lib.hid (b38.out.trans (only9.below (B := w3.heap.size) b38.out.size (fun ad e => by cases e; exact hg3)))
      have g9 := Lib.hid (g8.out.onlyUp only9 (fun ad ad' e e' => by cases e'; have := (g8.out.low ad e).1; show ad.block ≠ g4; omega))
      have i9 := Lib.hid ((i0.out.below b39.out).more b39.out.size)
      have hk0 : ¬ (1 + (n : Int)) < 0 := by omega
      clear only9 z8 b38 x8 g8 hcX8
      go_wp2_with fail
      refine (eqIntS_any A6 A0 n6 n0 c6 c0 w9.heap.size _ _ w9 g9.out.ints i9.out hn6 hn0).mono ?_
      rintro e w10 ⟨rfl, d10, hw10⟩
      have k10 : Below w9.heap.size w9 w10 := by rw [hw10]; exact below_drewN (Below.refl _ _) d10
      have b310 := Lib.hid (b39.out.trans (k10.mono b39.out.size))
      have g10 := Lib.hid (g9.out.below k10)
      clear hk0 hw10 k10 b39 g9 i9
      go_wp2_with fail
      refine (mark_any A6 n6 c6 (w4.heap.size + 1) _ 1 _ g10.out hn6 (by decide) (by decide)).mono ?_
      rintro e w11 ⟨rfl, g11, only11⟩
      have b311 := Lib.hid (b310.out.trans (only11.below (B := w3.heap.size) (fun ad e => by have := (g10.out.low ad e).1; omega)))
      have g11' := Lib.hid g11
      clear only11 g11 b310 g10
      go_wp2_with fail
      refine (held_any A6 n6 c6 w11.heap.size 1 w11 g11'.out.ints hn6 (by decide) (by decide)).mono ?_
      rintro e w11' ⟨rfl, rfl⟩
      have hlt0 : ¬ (1 + (n6 : Int)) < 0 := by omega
      have hne : ((1 + (n6 : Int)) != (1 + (n6 : Int))) = false := by simp
      have v11 := Lib.hid (v3.out.step b311.out)
      have hcA := v11.out.cell
      go_wp2_with fail
      refine (toSums_any A n c xs _ (hr.out.up v11.out.below) hm).mono ?_
      rintro e w12 ⟨g12, rfl, o12, b12⟩
      have o12' := Lib.hid o12
      have b312 := Lib.hid (b311.out.trans (b12.mono b311.out.size))
      have g12' := Lib.hid (g11'.out.below b12)
      clear o12 b12 b311 g11' v11 hcA
      go_wp2_with fail
      refine (listOf_any _ n n xs _ o12'.out.ints hm).mono ?_
      rintro e w13 ⟨A13, n13, c13, rfl, o13, b13⟩
      have hn13 : n13 ≤ 1048576 := by rw [← o13.len]; exact Nat.le_trans hlen.out hm
      have o13' := Lib.hid o13
      have b313 := Lib.hid (b312.out.trans (b13.mono b312.out.size))
      have g13 := Lib.hid (g12'.out.below b13)
      have i13 := Lib.hid ((i0.out.below b313.out).more b313.out.size)
      clear o13 b13 o12' b312 g12'
      go_wp2_with fail
      refine (eqIntS_any A13 A0 n13 n0 c13 c0 w13.heap.size _ _ w13 o13'.out.ints i13.out hn13 hn0).mono ?_
      rintro e w14 ⟨rfl, d14, hw14⟩
      have k14 : Below w13.heap.size w13 w14 := by rw [hw14]; exact below_drewN (Below.refl _ _) d14
      have b314 := Lib.hid (b313.out.trans (k14.mono b313.out.size))
      have g14 := Lib.hid (g13.out.below k14)
      have v14 := Lib.hid (v3.out.step b314.out)
      clear hw14 k14 b313 g13 i13 o13'
      go_wp2_with fail
      refine (held_any A6 n6 c6 w14.heap.size 1 w14 g14.out.ints hn6 (by decide) (by decide)).mono ?_
      rintro e w14' ⟨rfl, rfl⟩
      go_wp2_with fail
      go_ret
      exact ⟨rfl, v14.out.below⟩
  · have hrn : r < 0 := by omega
    clear hr0
    go_wp2_with fail
    go_ret
    exact ⟨rfl, v1.out.below⟩
end Go.Proofs.Ytbhogcecjmlomaa
