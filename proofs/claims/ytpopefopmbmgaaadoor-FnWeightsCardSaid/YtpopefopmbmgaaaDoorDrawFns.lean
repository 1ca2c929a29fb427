/- What is proved here: what the model's draws of whole arguments return, and the law's helpers on numbers, at every slice of bytes. No conditions beside the slice's length. -/
import Derived.Test.YtpopefopmbmgaaaDoorStakes
namespace Go.Proofs.YtpopefopmbmgaaaDoor
open Go.RowKit

def BytesIn (w : World) (A : Option Addr) (n : Nat) : Prop := BytesAt w w.heap.size w.heap.size A n
theorem BytesIn.below {w w' : World} {A : Option Addr} {n : Nat} (h : BytesIn w A n) (hb : Below w.heap.size w w') : BytesIn w' A n := fun k hk => by
  obtain ⟨b, off, x, e, _, hlt, h0, h1, hc⟩ := h k hk
  exact ⟨b, off, x, e, by have := hb.size; omega, by have := hb.size; omega, h0, h1, (hb.cell (p := ⟨b, off + k, none⟩) hlt).trans hc⟩
theorem BytesIn.drewN {w : World} {A : Option Addr} {n : Nat} (h : BytesIn w A n) (k : Nat) : BytesIn (w.drewN k) A n := h
theorem cur_new {w : World} {A : Option Addr} {n c : Nat} (h : BytesIn w A n) (hn : n ≤ 1048576) :
    CurOk (w.alloc (.cells #[.slice A n c, .int .i64 0, .int .u64 0] 53)) w.heap.size (w.heap.size + 1) 0 := by
  refine ⟨Nat.lt_succ_self _, A, n, c, 0, 0, heap_alloc_new w _, Nat.le_refl _, hn, Int.le_refl _, by decide, fun k hk => ?_⟩
  obtain ⟨b, off, x, e, _, hlt, h0, h1, hc⟩ := h k hk
  exact ⟨b, off, x, e, by omega, by omega, h0, h1, (World.cell?_alloc_lt w _ ⟨b, off + k, none⟩ hlt).trans hc⟩
theorem new_below (w : World) (o : Obj) : Below w.heap.size w (w.alloc o) := (Below.refl _ _).alloc (Nat.le_refl _) _
theorem grew_new {w w' : World} {o : Obj} (h : Grew w.heap.size (w.alloc o).heap.size (w.alloc o) w') : Below w.heap.size w w' :=
  (new_below w o).trans ((h.mono (by simp)).below (Nat.le_refl _))
theorem OwnAt.from {w : World} {B B' n : Nat} {A : Option Addr} {xs : List Int} (h : OwnAt w B A n xs) (hB : B' ≤ B) : OwnAt w B' A n xs := h.fewer hB
theorem OwnAt.grew {w w' : World} {B g n : Nat} {A : Option Addr} {xs : List Int} (h : OwnAt w B A n xs) (hg : Grew g w.heap.size w w') (hgB : g < B) : OwnAt w' B A n xs :=
  h.keep hg.size (fun ad e => hg.block _ (h.low ad e).2 (by have := (h.low ad e).1; omega))

def DrawSl (w : World) (K : Nat) (e : Ending) (w' : World) : Prop :=
  ∃ A n c xs, e = .returned (.slice A n c) ∧ OwnAt w' w.heap.size A n xs ∧ n ≤ K ∧ Below w.heap.size w w'
def DrawTwo (w : World) (e : Ending) (w' : World) : Prop :=
  ∃ A n c xs A' n' c' ys, e = .returned (.tuple #[.slice A n c, .slice A' n' c']) ∧ OwnAt w' w.heap.size A n xs ∧ OwnAt w' w.heap.size A' n' ys ∧ n ≤ 12 ∧ n' ≤ 12 ∧ Below w.heap.size w w'

set_option maxHeartbeats 400000 in
theorem drawGood_any (A : Option Addr) (n c : Nat) (w : World) (h : BytesIn w A n) (hn : n ≤ 1048576) :
    Calls Tryd.prog 59 #[.slice A n c] w (DrawSl w 11) := by
  have hc := Lib.hid (cur_new (c := c) h hn)
  go_enter Tryd.func59, Tryd.ntmps59
  go_wp2_with fail
  refine (stakes_any w.heap.size (w.heap.size + 1) 0 _ hc.out (by simp) (by decide)).mono ?_
  rintro e w1 ⟨A1, n1, c1, xs, rfl, o1, hn1, _, _, _, g1⟩
  have o1' := Lib.hid (o1.fewer (show w.heap.size ≤ _ by simp)); clear o1
  have b1 := Lib.hid (grew_new g1); clear g1
  go_wp2
  go_ret
  exact ⟨A1, n1, c1, xs, rfl, o1'.out, hn1, b1.out⟩

theorem drawSmall_any (A : Option Addr) (n c : Nat) (w : World) (h : BytesIn w A n) (hn : n ≤ 1048576) :
    Calls Tryd.prog 30 #[.slice A n c] w (DrawSl w 11) := by
  go_enter Tryd.func30, Tryd.ntmps30
  go_wp2_with fail
  refine (drawGood_any A n c w h hn).mono ?_
  rintro e w1 ⟨A1, n1, c1, xs, rfl, o1, hn1, b1⟩
  have o1' := Lib.hid o1; clear o1
  go_wp2
  go_ret
  exact ⟨A1, n1, c1, xs, rfl, o1'.out, hn1, b1⟩

theorem own_front {w : World} {B n : Nat} {A : Option Addr} {xs : List Int} (h : OwnAt w B A n xs) {k : Nat} (hk : k ≤ n) : OwnAt w B A k (xs.take k) :=
  ⟨by rw [List.length_take, h.len]; omega, fun h0 => by
    obtain ⟨g, m, f, e, hm, hr, hf⟩ := h.own (by omega)
    exact ⟨g, m, f, e, by omega, hr, fun i hi => by rw [hf i (by omega), List.getElem?_take_of_lt hi]⟩, h.low⟩

set_option maxHeartbeats 400000 in
theorem drawLeast_any (A : Option Addr) (n c : Nat) (w : World) (h : BytesIn w A n) (hn : n ≤ 1048576) :
    Calls Tryd.prog 21 #[.slice A n c] w (DrawSl w 11) := by
  have hc := Lib.hid (cur_new (c := c) h hn)
  go_enter Tryd.func21, Tryd.ntmps21
  go_wp2_with fail
  refine (stakes_any w.heap.size (w.heap.size + 1) 0 _ hc.out (by simp) (by decide)).mono ?_
  rintro e w1 ⟨A1, n1, c1, xs, rfl, o1, hn1, hc1, hc2, _, g1⟩
  have o1' := Lib.hid (o1.fewer (show w.heap.size ≤ _ by simp)); clear o1
  have b1 := Lib.hid (grew_new g1); clear g1
  unfold maxLen at hc2
  by_cases h7 : 7 < n1
  · have h7' : (7 : Int) < (n1 : Int) := by omega
    obtain ⟨q, m, f, rfl, _⟩ := o1'.out.own (by omega)
    have h7c : 7 ≤ c1 := by omega
    go_wp2
    go_ret
    exact ⟨_, 7, _, xs.take 7, rfl, own_front o1'.out (by omega), by decide, b1.out⟩
  · have h7' : ¬ (7 : Int) < (n1 : Int) := by omega
    go_wp2
    go_ret
    exact ⟨A1, n1, c1, xs, rfl, o1'.out, hn1, b1.out⟩

set_option maxHeartbeats 800000 in
theorem drawWeight_any (A : Option Addr) (n c : Nat) (w : World) (h : BytesIn w A n) (hn : n ≤ 1048576) :
    Calls Tryd.prog 39 #[.slice A n c] w (DrawTwo w) := by
  have hc := Lib.hid (cur_new (c := c) h hn)
  go_enter Tryd.func39, Tryd.ntmps39
  go_wp2_with fail
  refine (stakes_any w.heap.size (w.heap.size + 1) 0 _ hc.out (by simp) (by decide)).mono ?_
  rintro e w1 ⟨A1, n1, c1, xs, rfl, o1, hn1, _, _, cu1, g1⟩
  go_wp2_with fail
  refine (pick_any w.heap.size (w.heap.size + 1) (0 + 100) 9 w1 cu1 (by decide) (by decide)).mono ?_
  rintro e w2 ⟨x, rfl, x0, x1, cu2, on2⟩
  have x2 : x < 9 := by omega
  have o2 : OwnAt w2 _ A1 n1 xs := o1.grew (Grew.of_only on2) (by simp)
  have g2 := g1.trans (Grew.of_only on2)
  have hs2 : w.heap.size + 1 ≤ w2.heap.size := by have := g2.size; simpa using this
  clear o1 g1 on2 cu1 x1
  go_wp2_with fail
  refine (group_any w.heap.size (w.heap.size + 1) (0 + 100 + 2) ((n1 : Int) + x / 8) w2 cu2 hs2 (by decide) (by omega) (by omega)).mono ?_
  rintro e w3 ⟨A3, n3, c3, ys, rfl, o3, hn3, cu3, g3⟩
  have o13 := Lib.hid ((o2.grew g3 (by simp)).fewer (show w.heap.size ≤ _ by simp))
  have o33 := Lib.hid (o3.fewer (show w.heap.size ≤ w2.heap.size by omega))
  have bel := Lib.hid (grew_new (g2.trans (g3.mono g2.size)))
  clear o2 o3 g2 g3 cu2 cu3
  go_wp2
  go_ret2
  exact ⟨A1, n1, c1, xs, A3, n3, c3, ys, rfl, o13.out, o33.out, by omega, by omega, bel.out⟩

theorem drawIsGreat_any (A : Option Addr) (n c : Nat) (w : World) (h : BytesIn w A n) (hn : n ≤ 1048576) :
    Calls Tryd.prog 10 #[.slice A n c] w (DrawTwo w) := by
  go_enter Tryd.func10, Tryd.ntmps10
  go_wp2_with fail
  refine (drawWeight_any A n c w h hn).mono ?_
  rintro e w1 ⟨A1, n1, c1, xs, A3, n3, c3, ys, rfl, o1, o3, h1, h3, b1⟩
  have o1' := Lib.hid o1; clear o1
  have o3' := Lib.hid o3; clear o3
  go_wp2
  go_ret2
  exact ⟨A1, n1, c1, xs, A3, n3, c3, ys, rfl, o1'.out, o3'.out, h1, h3, b1⟩

set_option maxHeartbeats 800000 in
theorem drawBoth_any (A : Option Addr) (n c : Nat) (w : World) (h : BytesIn w A n) (hn : n ≤ 1048576) :
    Calls Tryd.prog 33 #[.slice A n c] w (DrawTwo w) := by
  have hc := Lib.hid (cur_new (c := c) h hn)
  go_enter Tryd.func33, Tryd.ntmps33
  go_wp2_with fail
  refine (group_any w.heap.size (w.heap.size + 1) 0 10 _ hc.out (by simp) (by decide) (by decide) (by decide)).mono ?_
  rintro e w1 ⟨A1, n1, c1, xs, rfl, o1, hn1, cu1, g1⟩
  go_wp2_with fail
  refine (pick_any w.heap.size (w.heap.size + 1) (0 + 2000) 9 w1 cu1 (by decide) (by decide)).mono ?_
  rintro e w2 ⟨x, rfl, x0, x1, cu2, on2⟩
  have x2 : x < 9 := by omega
  have o2 : OwnAt w2 _ A1 n1 xs := o1.grew (Grew.of_only on2) (by simp)
  have g2 := g1.trans (Grew.of_only on2)
  have hs2 : w.heap.size + 1 ≤ w2.heap.size := by have := g2.size; simpa using this
  clear o1 g1 on2 cu1 x1
  go_wp2_with fail
  refine (group_any w.heap.size (w.heap.size + 1) (0 + 2000 + 2) (10 + x / 8) w2 cu2 hs2 (by decide) (by omega) (by omega)).mono ?_
  rintro e w3 ⟨A3, n3, c3, ys, rfl, o3, hn3, cu3, g3⟩
  have o13 := Lib.hid ((o2.grew g3 (by simp)).fewer (show w.heap.size ≤ _ by simp))
  have o33 := Lib.hid (o3.fewer (show w.heap.size ≤ w2.heap.size by omega))
  have bel := Lib.hid (grew_new (g2.trans (g3.mono g2.size)))
  clear o2 o3 g2 g3 cu2 cu3
  go_wp2
  go_ret2
  exact ⟨A1, n1, c1, xs, A3, n3, c3, ys, rfl, o13.out, o33.out, by omega, by omega, bel.out⟩

set_option maxHeartbeats 800000 in
theorem drawMask_any (A : Option Addr) (n c : Nat) (w : World) (h : BytesIn w A n) (hn : n ≤ 1048576) :
    Calls Tryd.prog 26 #[.slice A n c] w (DrawSl w 11) := by
  have hc := Lib.hid (cur_new (c := c) h hn)
  go_enter Tryd.func26, Tryd.ntmps26
  go_wp2_with fail
  refine (pick_any w.heap.size (w.heap.size + 1) 0 9 _ hc.out (by decide) (by decide)).mono ?_
  rintro e w2 ⟨x, rfl, x0, x1, cu2, on2⟩
  have x2 : x < 9 := by omega
  have g2 : Grew w.heap.size (w.heap.size + 1) _ w2 := Grew.of_only on2
  have hs2 : w.heap.size + 1 ≤ w2.heap.size := by have := g2.size; simpa using this
  have g2' : Below w.heap.size w w2 := grew_new (Grew.of_only on2)
  clear on2 x1 g2
  go_wp2_with fail
  refine (group_any w.heap.size (w.heap.size + 1) (0 + 2) (10 + x / 8) w2 cu2 hs2 (by decide) (by omega) (by omega)).mono ?_
  rintro e w3 ⟨A3, n3, c3, ys, rfl, o3, hn3, cu3, g3⟩
  have o33 := Lib.hid (o3.fewer (show w.heap.size ≤ w2.heap.size by omega))
  have bel := Lib.hid (g2'.trans ((g3.mono (show w.heap.size ≤ w2.heap.size by omega)).below (Nat.le_refl _)))
  clear o3 g3 cu2 cu3
  go_wp2
  go_ret
  exact ⟨A3, n3, c3, ys, rfl, o33.out, by omega, bel.out⟩
end Go.Proofs.YtpopefopmbmgaaaDoor
