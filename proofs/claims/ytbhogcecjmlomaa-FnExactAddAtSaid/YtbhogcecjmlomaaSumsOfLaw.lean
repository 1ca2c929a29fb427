/- What is proved here: the law on SumsOf returns true at every slice of integers, and writes nothing that was there. No conditions. -/
import Derived.Test.YtbhogcecjmlomaaFenBox
import Derived.Test.YtbhogcecjmlomaaFenOf
namespace Go.Proofs.Ytbhogcecjmlomaa
open Go.RowKit

theorem toIntSg_any (A : Option Addr) (n c : Nat) (xs : List Int) (w : World) (h : IntsAt w w.heap.size A n xs) (hn : n ≤ 1048576) :
    Calls Try.prog 61 #[.slice A n c] w fun e w' => ∃ g, e = .returned (.slice (some ⟨g, 0, none⟩) n n) ∧ OwnAt w' w.heap.size (some ⟨g, 0, none⟩) n xs ∧ Below w.heap.size w w' := by
  have hl := h.1
  refine (toIntS_any A n c xs w h hn).mono ?_
  rintro e w' ⟨rfl, r1, b1, s1⟩
  exact ⟨_, rfl, OwnAt.of_row s1 hl r1, b1⟩
theorem Boxed.stepTo {w w' w'' : World} {v : Value} {t : TypeId} (h : Boxed w v t w') (hb : Below (w.heap.size + 1) w' w'') : Boxed w v t w'' := ⟨h.up.trans hb⟩
theorem rowIs_onlyUp {w w' : World} {A : Option Addr} {g n : Nat} {t : TypeId} {f : Nat → Value} (h : w.rowIs g t n f) (ho : OnlyUp A w w') (hd : ∀ ad, A = some ad → g ≠ ad.block) : w'.rowIs g t n f := h.of_block (ho.block g h.lt hd)
theorem sumsR_len (xs : List Int) : (sumsR xs).length ≤ xs.length := by
  unfold sumsR
  split
  · rw [ofL_len]; exact Nat.le_refl _
  · exact Nat.zero_le _

set_option maxRecDepth 100000 in
set_option maxHeartbeats 6400000 in
theorem lawSumsOf (A : Option Addr) (n c : Nat) (xs : List Int) (w : World) (h : IntsAt w w.heap.size A n xs) (hnn : n ≤ maxLen) :
    Calls Try.prog 7 #[.slice A n c] w fun e w' => e = .returned (.bool true) ∧ Below w.heap.size w w' := by
  unfold maxLen at hnn
  by_cases hm : n ≤ 1048576
  · have hlen := Lib.hid (show (sumsR xs).length ≤ n by rw [← h.1]; exact sumsR_len xs)
    have hr := Lib.hid h; clear h
    have hq0 : (goodW xs != goodW xs) = false := by simp
    go_enter Try.func7, Try.ntmps7
    go_wp2_with fail
    refine (toIntSg_any A n c xs _ hr.out hm).mono ?_
    rintro e w1 ⟨g1, rfl, o1, b1⟩
    have o1' := Lib.hid o1; have u1 := Lib.hid b1
    clear o1 b1
    go_wp2_with fail
    refine (specSumsOf_any _ n n xs _ o1'.out.ints hm (Nat.le_refl _) (by unfold maxLen; omega)).mono ?_
    rintro e w2 ⟨A0, n0, c0, rfl, o2, b2⟩
    have hn0 : n0 ≤ 1048576 := by rw [← o2.len]; exact Nat.le_trans hlen.out hm
    have o2' := Lib.hid o2
    have u2 := Lib.hid (u1.out.trans (b2.mono u1.out.size))
    have z2 := Lib.hid (Boxed.start w2 (.slice A0 n0 c0) 53)
    clear o2 b2 o1' u1
    go_wp2_with fail
    refine (toIntSg_any A n c xs _ (hr.out.up (u2.out.trans (z2.out.below.mono u2.out.size))) hm).mono ?_
    rintro e w3 ⟨X, rfl, o3, b3⟩
    have z3 := Lib.hid (z2.out.step b3)
    have hX3 : X < w3.heap.size := (o3.low _ rfl).2
    have o3' := Lib.hid (show OwnAt w3 (w2.heap.size + 1) (some ⟨X, 0, none⟩) n xs from o3.fewer (by simp))
    have hX2 : w2.heap.size + 1 ≤ X := (o3'.out.low _ rfl).1
    clear o3 b3 z2
    go_wp2_with fail
    refine (sumsOf_any _ n n xs _ o3'.out.ints hm).mono ?_
    rintro e w4 ⟨A6, n6, c6, rfl, g4, b4⟩
    have hn6 : n6 ≤ 1048576 := by rw [← g4.len]; exact Nat.le_trans hlen.out hm
    have z4 := Lib.hid (z3.out.step b4)
    have x4 := Lib.hid (o3'.out.below b4)
    have g4' := Lib.hid g4
    have hs34 : w3.heap.size ≤ w4.heap.size := b4.size
    have g4lt := Lib.hid (fun ad (e : A6 = some ad) => (g4.low ad e).2)
    clear g4 b4 z3 o3'
    have k5 : Below w4.heap.size w4 (w4.alloc (.cells #[.slice A6 n6 c6] 53)) := box_below w4 _
    have z5 := Lib.hid (z4.out.step k5)
    have x5 := Lib.hid (x4.out.below k5)
    have g5 := Lib.hid (g4'.out.below k5)
    have rG5 := Lib.hid (row_box w4 (.slice A6 n6 c6) 53)
    have hcP5 := z5.out.cell
    have i5 := Lib.hid (o2'.out.below z5.out.below)
    clear k5 z4 x4 g4'
    go_wp2_with fail
    refine (eqSums_any A6 A0 n6 n0 c6 c0 (sumsR xs) _ g5.out.ints i5.out.ints hn6 hn0).mono ?_
    rintro e w5 ⟨rfl, b5⟩
    have z6 := Lib.hid (z5.out.step b5)
    have x6 := Lib.hid (x5.out.below b5)
    have g6 := Lib.hid (g5.out.below b5)
    have rG6 := Lib.hid (rowIs_below rG5.out b5 (by simp))
    have hs45 : w4.heap.size + 1 ≤ w5.heap.size := by have := b5.size; simpa using this
    clear b5 z5 x5 g5 rG5 hcP5 i5
    go_wp2_with fail
    refine (toIntSg_any A n c xs _ (hr.out.up (u2.out.trans (z6.out.below.mono u2.out.size))) hm).mono ?_
    rintro e w6 ⟨g7, rfl, o7, b7⟩
    have z7 := Lib.hid (z6.out.step b7)
    have x7 := Lib.hid (x6.out.below b7)
    have gg7 := Lib.hid (g6.out.below b7)
    have rG7 := Lib.hid (rowIs_below rG6.out b7 (by omega))
    have o7' := Lib.hid o7
    have hs56 : w4.heap.size + 1 ≤ w6.heap.size := by have := b7.size; omega
    have hqx : eqB xs xs = true := eqB_yes rfl (fun _ _ => rfl)
    clear o7 b7 z6 x6 g6 rG6
    go_wp2_with fail
    refine (eqIntS_any _ _ n n _ _ w6.heap.size xs xs _ x7.out.ints o7'.out.ints hm hm).mono ?_
    rintro e w7 ⟨rfl, d7, hw7⟩
    have k7 : Below w6.heap.size w6 w7 := by rw [hw7]; exact below_drewN (Below.refl _ _) d7
    have z8 := Lib.hid (z7.out.step k7)
    have x8 := Lib.hid (x7.out.below k7)
    have g8 := Lib.hid (gg7.out.below k7)
    have rG8 := Lib.hid (rowIs_below rG7.out k7 (by omega))
    have hs57 : w4.heap.size + 1 ≤ w7.heap.size := by have := k7.size; omega
    clear hw7 k7 z7 x7 gg7 rG7 o7'
    go_wp2_with fail
    refine (mark_any _ n _ (w2.heap.size + 1) xs 1 _ x8.out hm (by decide) (by decide)).mono ?_
    rintro e w8 ⟨rfl, _, only8⟩
    have z9 := Lib.hid (z8.out.stepTo (only8.below (B := w2.heap.size + 1) (fun ad e => by cases e; exact hX2)))
    have g9 := Lib.hid (g8.out.only only8 (fun ad ad' e e' => by cases e'; have := (g8.out.low ad e).1; show ad.block ≠ X; omega))
    have rG9 := Lib.hid (rG8.out.of_block (only8.block w4.heap.size (fun ad e => by cases e; show w4.heap.size ≠ X; omega)))
    have hs58 : w4.heap.size + 1 ≤ w8.heap.size := by rw [only8.size]; exact hs57
    have hk0 : ¬ (1 + (n : Int)) < 0 := by omega
    have hcP9 := z9.out.cell
    have hcG9 := rG9.out.cell (i := 0) (by omega)
    have i9 := Lib.hid (o2'.out.below z9.out.below)
    clear only8 z8 x8 g8 rG8
    go_wp2_with fail
    refine (eqSums_any A6 A0 n6 n0 c6 c0 (sumsR xs) _ g9.out.ints i9.out.ints hn6 hn0).mono ?_
    rintro e w9 ⟨rfl, b9⟩
    have z10 := Lib.hid (z9.out.step b9)
    have g10 := Lib.hid (g9.out.below b9)
    have rG10 := Lib.hid (rowIs_below rG9.out b9 (by omega))
    have hs59 : w4.heap.size + 1 ≤ w9.heap.size := by have := b9.size; omega
    have hcG10 := rG10.out.cell (i := 0) (by omega)
    clear b9 z9 g9 rG9 hcP9 hcG9 i9 hk0
    go_wp2_with fail
    refine (markSums_any A6 n6 c6 w3.heap.size (sumsR xs) 1 _ g10.out hn6 (by decide) (by decide)).mono ?_
    rintro e w10 ⟨rfl, g11, only11⟩
    have z11 := Lib.hid (z10.out.stepTo (only11.below (B := w2.heap.size + 1) (by omega) (fun ad e => by have := (g10.out.low ad e).1; omega)))
    have rG11 := Lib.hid (rowIs_onlyUp rG10.out only11 (fun ad e => by have := (g4lt.out ad e); omega))
    have g11' := Lib.hid g11
    have hs510 : w4.heap.size + 1 ≤ w10.heap.size := by have := only11.size; omega
    have hcG11 := rG11.out.cell (i := 0) (by omega)
    clear only11 g11 z10 g10 rG10 hcG10
    go_wp2_with fail
    refine (heldSums_any A6 n6 c6 1 _ g11'.out.ints hn6 (by decide) (by decide)).mono ?_
    rintro e w11 ⟨rfl, b12⟩
    have z12 := Lib.hid (z11.out.step b12)
    have g12 := Lib.hid (g11'.out.below b12)
    have rG12 := Lib.hid (rowIs_below rG11.out b12 (by omega))
    have hs511 : w4.heap.size + 1 ≤ w11.heap.size := by have := b12.size; omega
    have hlt0 : ¬ (1 + (n6 : Int)) < 0 := by omega
    have hne : ((1 + (n6 : Int)) != (1 + (n6 : Int))) = false := by simp
    clear b12 z11 g11' rG11 hcG11
    go_wp2_with fail
    refine (toIntSg_any A n c xs _ (hr.out.up (u2.out.trans (z12.out.below.mono u2.out.size))) hm).mono ?_
    rintro e w12 ⟨g13, rfl, o13, b13⟩
    have z13 := Lib.hid (z12.out.step b13)
    have gg13 := Lib.hid (g12.out.below b13)
    have rG13 := Lib.hid (rowIs_below rG12.out b13 (by omega))
    have hs512 : w4.heap.size + 1 ≤ w12.heap.size := by have := b13.size; omega
    have o13' := Lib.hid o13
    clear o13 b13 z12 g12 rG12
    go_wp2_with fail
    refine (sumsOf_any _ n n xs _ o13'.out.ints hm).mono ?_
    rintro e w13 ⟨A13, n13, c13, rfl, o14, b14⟩
    have hn13 : n13 ≤ 1048576 := by rw [← o14.len]; exact Nat.le_trans hlen.out hm
    have k15 : Below w13.heap.size w13 (w13.alloc (.cells #[.slice A13 n13 c13] 53)) := box_below w13 _
    have hs513 : w4.heap.size + 1 ≤ w13.heap.size := by have := b14.size; omega
    have z15 := Lib.hid ((z13.out.step b14).step k15)
    have g15 := Lib.hid ((gg13.out.below b14).below k15)
    have rG15 := Lib.hid (rowIs_below (rowIs_below rG13.out b14 (by omega)) k15 (by omega))
    have o15 := Lib.hid (o14.below k15)
    have hcP15 := z15.out.cell
    have i15 := Lib.hid (o2'.out.below z15.out.below)
    clear o14 b14 k15 z13 gg13 rG13 o13'
    go_wp2_with fail
    refine (eqSums_any A13 A0 n13 n0 c13 c0 (sumsR xs) _ o15.out.ints i15.out.ints hn13 hn0).mono ?_
    rintro e w14 ⟨rfl, b16⟩
    have z16 := Lib.hid (z15.out.step b16)
    have g16 := Lib.hid (g15.out.below b16)
    have rG16 := Lib.hid (rowIs_below rG15.out b16 (by simp; omega))
    have hcG16 := rG16.out.cell (i := 0) (by omega)
    clear b16 z15 g15 rG15 o15 hcP15 i15
    go_wp2_with fail
    refine (heldSums_any A6 n6 c6 1 _ g16.out.ints hn6 (by decide) (by decide)).mono ?_
    rintro e w15 ⟨rfl, b17⟩
    have z17 := Lib.hid (z16.out.step b17)
    clear b17
    go_wp2_with fail
    go_ret
    exact ⟨rfl, u2.out.trans (z17.out.below.mono u2.out.size)⟩
  · have hgt : (1048576 : Int) < (n : Int) := by omega
    go_enter Try.func7, Try.ntmps7
    go_wp2
    go_ret
    exact ⟨rfl, Below.refl _ _⟩
end Go.Proofs.Ytbhogcecjmlomaa
