/- What is proved here: what the model's draws of chapter 2's arguments return, at every slice of bytes. No conditions beside the slice's length. -/
import Derived.Test.YtagppnmokmnofaaLawHelp
import Derived.Test.YtagppnmokmnofaaClockB
namespace Go.Proofs.Ytagppnmokmnofaa
open Go.RowKit

def SeedPost (w : World) (g B lim : Nat) (e : Ending) (w' : World) : Prop :=
  ∃ x : Int, e = .returned (.int .i64 x) ∧ CurOk w' g B (lim + 6) ∧ Grew g w.heap.size w w'
set_option maxHeartbeats 800000 in
theorem seedOf_any (g B lim : Nat) (w : World) (h : CurOk w g B lim) (hB : B ≤ w.heap.size) (hlim : lim ≤ 274877906944) :
    Calls Try.prog 44 #[.pointer (some ⟨g, 0, none⟩)] w (SeedPost w g B lim) := by
  have hgB := h.1
  go_enter Try.func44, Try.ntmps44
  go_wp2_with fail
  refine (pick_any g B lim 250 w h (by omega) (by decide)).mono ?_
  rintro e w1 ⟨x, rfl, x0, x1, c1, o1⟩
  have x2 : x < 250 := by omega
  clear x1 h
  go_wp2_with fail
  refine (pick_any g B (lim + 2) 250 w1 c1 (by omega) (by decide)).mono ?_
  rintro e w2 ⟨y, rfl, y0, y1, c2, o2⟩
  have y2 : y < 250 := by omega
  have o12 := Lib.hid (o1.trans o2)
  have hs2 : w.heap.size ≤ w2.heap.size := by rw [o12.out.size]; exact Nat.le_refl _
  clear y1 c1 o1 o2
  go_wp2_with fail
  refine (among_any g B (lim + 2 + 2) 7 7 (w2.heap.size + 1) _ [0, 1, 7, 65520, 65521, 1 + x * 250, 1 + y * 250] _ (c2.below (((Below.refl _ _).alloc (by omega) _))) (by omega) (seven_ints w2 _ _ _ _ _ _ _ 3) (by decide) (by decide) (fun ad e => by cases e; exact Nat.ne_of_gt (by show g < w2.heap.size; omega))).mono ?_
  rintro e w3 ⟨j, hj, rfl, c3, o3⟩
  have g3 := Lib.hid (((Grew.of_only (B := w.heap.size) o12.out).alloc hs2 _).trans (Grew.of_only o3))
  clear c2 o3 o12
  generalize ([0, 1, 7, 65520, 65521, 1 + x * 250, 1 + y * 250] : List Int)[j]?.getD 0 = z
  go_wp2
  go_ret
  exact ⟨z, rfl, c3.more (by omega), g3.out⟩

theorem six_ints (w : World) (a b c d e f : Int) (t : TypeId) : IntsAt (w.alloc (.cells #[.int .i64 a, .int .i64 b, .int .i64 c, .int .i64 d, .int .i64 e, .int .i64 f] t)) (w.heap.size + 1) (some ⟨w.heap.size, 0, none⟩) 6 [a, b, c, d, e, f] :=
  ⟨rfl, fun k hk => ⟨w.heap.size, 0, rfl, Nat.lt_succ_self _, by
    have : k = 0 ∨ k = 1 ∨ k = 2 ∨ k = 3 ∨ k = 4 ∨ k = 5 := by omega
    rcases this with rfl | rfl | rfl | rfl | rfl | rfl <;> simp⟩⟩
def DrawThree (w : World) (e : Ending) (w' : World) : Prop :=
  ∃ A n c xs s x, e = .returned (.tuple #[.slice A n c, .int .i64 s, .int .i64 x]) ∧ OwnAt w' w.heap.size A n xs ∧ n ≤ 11 ∧ Below w.heap.size w w'
def DrawPair (w : World) (e : Ending) (w' : World) : Prop :=
  ∃ A n c xs x, e = .returned (.tuple #[.slice A n c, .int .i64 x]) ∧ OwnAt w' w.heap.size A n xs ∧ n ≤ 11 ∧ Below w.heap.size w w'

set_option maxHeartbeats 800000 in
theorem drawTurn_any (A : Option Addr) (n c : Nat) (w : World) (h : BytesIn w A n) (hn : n ≤ 1048576) :
    Calls Try.prog 20 #[.slice A n c] w (DrawThree w) := by
  have hc := Lib.hid (cur_new (c := c) h hn)
  go_enter Try.func20, Try.ntmps20
  go_wp2_with fail
  refine (stakes_any w.heap.size (w.heap.size + 1) 0 _ hc.out (by simp) (by decide)).mono ?_
  rintro e w1 ⟨A1, n1, c1, xs, rfl, o1, hn1, _, _, cu1, g1⟩
  have hs1 : w.heap.size + 1 ≤ w1.heap.size := by have := g1.size; simpa using this
  go_wp2_with fail
  refine (seedOf_any w.heap.size (w.heap.size + 1) (0 + 100) w1 cu1 hs1 (by decide)).mono ?_
  rintro e w2 ⟨s, rfl, cu2, g2⟩
  have o2 : OwnAt w2 _ A1 n1 xs := o1.grew g2 (by simp)
  have g12 := g1.trans (g2.mono g1.size)
  have hs2 : w.heap.size + 1 ≤ w2.heap.size := by have := g2.size; omega
  clear o1 g1 g2 cu1
  go_wp2_with fail
  refine (among_any w.heap.size (w.heap.size + 1) (0 + 100 + 6) 6 6 (w2.heap.size + 1) _ [-1, 0, 1, 9, 100, 101] _ (cu2.below (((Below.refl _ _).alloc hs2 _))) (by decide) (six_ints w2 _ _ _ _ _ _ 3) (by decide) (by decide) (fun ad e => by cases e; exact Nat.ne_of_gt (by show w.heap.size < w2.heap.size; omega))).mono ?_
  rintro e w3 ⟨j, hj, rfl, cu3, on3⟩
  have gal : Grew w.heap.size w2.heap.size w2 w3 := (((Grew.refl _ _ _).alloc (Nat.le_refl _) _)).trans (Grew.of_only on3)
  have o3 := Lib.hid ((o2.grew gal (by simp)).fewer (show w.heap.size ≤ _ by simp))
  have bel := Lib.hid (grew_new (g12.trans (gal.mono g12.size)))
  clear o2 g12 gal on3 cu2 cu3
  generalize ([-1, 0, 1, 9, 100, 101] : List Int)[j]?.getD 0 = z
  go_wp2
  go_ret3
  exact ⟨A1, n1, c1, xs, s, z, rfl, o3.out, hn1, bel.out⟩

theorem drawTurns_any (A : Option Addr) (n c : Nat) (w : World) (h : BytesIn w A n) (hn : n ≤ 1048576) :
    Calls Try.prog 9 #[.slice A n c] w (DrawThree w) := by
  go_enter Try.func9, Try.ntmps9
  go_wp2_with fail
  refine (drawTurn_any A n c w h hn).mono ?_
  rintro e w1 ⟨A1, n1, c1, xs, s, x, rfl, o1, hn1, b1⟩
  have o1' := Lib.hid o1; clear o1
  go_wp2
  go_ret3
  exact ⟨A1, n1, c1, xs, s, x, rfl, o1'.out, hn1, b1⟩

theorem least_any (a b : Int) (w : World) :
    Calls Try.prog 40 #[.int .i64 a, .int .i64 b] w fun e w' => e = .returned (.int .i64 (if a < b then a else b)) ∧ w = w' := by
  by_cases h : a < b
  · have hq := Lib.hid (show (if a < b then a else b) = a from if_pos h)
    rw [hq.out]
    go_enter Try.func40, Try.ntmps40
    go_wp2
    go_ret
    exact ⟨rfl, rfl⟩
  · have hq := Lib.hid (show (if a < b then a else b) = b from if_neg h)
    rw [hq.out]
    go_enter Try.func40, Try.ntmps40
    go_wp2
    go_ret
    exact ⟨rfl, rfl⟩

set_option maxHeartbeats 400000 in
theorem specSumS_any (A : Option Addr) (n c B : Nat) (xs : List Int) (w : World) (h : IntsAt w B A n xs) (hn : n ≤ 1048576) (hb : Small xs) :
    Calls Try.prog 41 #[.slice A n c] w fun e w' => e = .returned (.int .i64 (sumL xs)) ∧ w = w' := by
  have hl' := Lib.hid h.1
  have hr := Lib.hid h; clear h
  have hb' := Lib.hid hb; clear hb
  go_enter Try.func41, Try.ntmps41
  go_wp2
  go_loop [3, 8] (fun s i => ∃ k : Nat, k ≤ n ∧ i = .int .i64 k ∧ s = .int .i64 (sumL (xs.take k))) (fun _ i => n - (intOf i).toNat)
  case atStart => exact ⟨0, Nat.zero_le _, rfl, rfl⟩
  case round =>
    obtain ⟨k, hk, rfl, rfl⟩ := hrel
    by_cases hlt : k < n
    · obtain ⟨b, off, rfl, _, hc⟩ := hr.out.2 k hlt
      have hs := Lib.hid (sumL_step (s := xs) (k := k) (by rw [hl'.out]; exact hlt))
      obtain ⟨g1, g2⟩ := sumL_bd hb'.out k (by rw [hl'.out]; exact hk)
      obtain ⟨g3, g4⟩ := hb'.out k (by rw [hl'.out]; exact hlt)
      go_wp2
      go_round
      case rel => exact ⟨k + 1, by omega, by go_num, by rw [hs.out]⟩
      case measure => simp [intOf]; omega
    · go_wp2
      go_ret
      exact ⟨ret_int (sumL_end (by rw [hl'.out]; omega)), rfl⟩

set_option maxHeartbeats 800000 in
theorem drawLot_any (A : Option Addr) (n c : Nat) (w : World) (h : BytesIn w A n) (hn : n ≤ 1048576) :
    Calls Try.prog 16 #[.slice A n c] w (DrawPair w) := by
  have hc := Lib.hid (cur_new (c := c) h hn)
  go_enter Try.func16, Try.ntmps16
  go_wp2_with fail
  refine (stakes_small w.heap.size (w.heap.size + 1) 0 _ hc.out (by simp) (by decide)).mono ?_
  rintro e w1 ⟨A1, n1, c1, xs, rfl, o1, hn1, _, _, cu1, g1, hsm⟩
  have hs1 : w.heap.size + 1 ≤ w1.heap.size := by have := g1.size; simpa using this
  obtain ⟨q1, q2⟩ := sumL_bd hsm.out xs.length (Nat.le_refl _)
  rw [sumL_end (Nat.le_refl _)] at q1 q2
  have hlx := o1.len
  have q3 : sumL xs ≤ 11011 := by omega
  clear q2 hlx
  go_wp2_with fail
  refine (specSumS_any A1 n1 c1 w1.heap.size xs w1 o1.ints (by omega) hsm.out).mono ?_
  rintro e w1' ⟨rfl, rfl⟩
  go_wp2_with fail
  refine (least_any 200 (sumL xs) w1).mono ?_
  rintro e w1' ⟨rfl, rfl⟩
  obtain ⟨t, ht, t0, t1⟩ : ∃ t : Int, (if (200 : Int) < sumL xs then 200 else sumL xs) = t ∧ 0 ≤ t ∧ t ≤ 200 := by
    by_cases e : (200 : Int) < sumL xs
    · exact ⟨200, if_pos e, by decide, by decide⟩
    · exact ⟨sumL xs, if_neg e, by omega, by omega⟩
  rw [ht]
  clear ht
  go_wp2_with fail
  refine (pick_any w.heap.size (w.heap.size + 1) (0 + 100) (t + 2) w1 cu1 (by decide) (by omega)).mono ?_
  rintro e w2 ⟨x, rfl, x0, x1, cu2, on2⟩
  have x2 : x < 202 := by omega
  have g2 : Grew w.heap.size w1.heap.size w1 w2 := Grew.of_only on2
  have o2 := Lib.hid ((o1.grew g2 (by simp)).fewer (show w.heap.size ≤ _ by simp))
  have bel := Lib.hid (grew_new (g1.trans (g2.mono g1.size)))
  clear o1 g1 g2 on2 cu1 cu2 x1
  go_wp2
  go_ret2
  exact ⟨A1, n1, c1, xs, _, rfl, o2.out, hn1, bel.out⟩

set_option maxHeartbeats 800000 in
theorem drawUntil_any (A : Option Addr) (n c : Nat) (w : World) (h : BytesIn w A n) (hn : n ≤ 1048576) :
    Calls Try.prog 22 #[.slice A n c] w (DrawThree w) := by
  have hc := Lib.hid (cur_new (c := c) h hn)
  go_enter Try.func22, Try.ntmps22
  go_wp2_with fail
  refine (stakes_any w.heap.size (w.heap.size + 1) 0 _ hc.out (by simp) (by decide)).mono ?_
  rintro e w1 ⟨A1, n1, c1, xs, rfl, o1, hn1, _, _, cu1, g1⟩
  have hs1 : w.heap.size + 1 ≤ w1.heap.size := by have := g1.size; simpa using this
  go_wp2_with fail
  refine (seedOf_any w.heap.size (w.heap.size + 1) (0 + 100) w1 cu1 hs1 (by decide)).mono ?_
  rintro e w2 ⟨s, rfl, cu2, g2⟩
  have o2 : OwnAt w2 _ A1 n1 xs := o1.grew g2 (by simp)
  have g12 := g1.trans (g2.mono g1.size)
  clear o1 g1 g2 cu1
  go_wp2_with fail
  refine (pick_any w.heap.size (w.heap.size + 1) (0 + 100 + 6) ((n1 : Int) + 2) w2 cu2 (by decide) (by omega)).mono ?_
  rintro e w3 ⟨x, rfl, x0, x1, cu3, on3⟩
  have x2 : x < 14 := by omega
  have gal : Grew w.heap.size w2.heap.size w2 w3 := Grew.of_only on3
  have o3 := Lib.hid ((o2.grew gal (by simp)).fewer (show w.heap.size ≤ _ by simp))
  have bel := Lib.hid (grew_new (g12.trans (gal.mono g12.size)))
  clear o2 g12 gal on3 cu2 cu3 x1
  go_wp2
  go_ret3
  exact ⟨A1, n1, c1, xs, s, _, rfl, o3.out, hn1, bel.out⟩

theorem drawNext_any (A : Option Addr) (n c : Nat) (w : World) (h : BytesIn w A n) (hn : n ≤ 1048576) :
    Calls Try.prog 24 #[.slice A n c] w (DrawInt w) := by
  have hc := Lib.hid (cur_new (c := c) h hn)
  go_enter Try.func24, Try.ntmps24
  go_wp2_with fail
  refine (seedOf_any w.heap.size (w.heap.size + 1) 0 _ hc.out (by simp) (by decide)).mono ?_
  rintro e w1 ⟨s, rfl, cu1, g1⟩
  have b1 := Lib.hid (grew_new g1); clear g1
  go_wp2
  go_ret
  exact ⟨s, rfl, b1.out⟩
end Go.Proofs.Ytagppnmokmnofaa
