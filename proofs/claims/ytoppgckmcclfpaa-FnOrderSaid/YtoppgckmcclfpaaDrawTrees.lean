/- What is proved here: what the model's draws of chapter 3's arguments return, at every slice of bytes. No conditions beside the slice's length. -/
import Derived.Test.YtoppgckmcclfpaaDrawTree
import Derived.Test.YtoppgckmcclfpaaTreeSpec
namespace Go.Proofs.Ytoppgckmcclfpaa
open Go.RowKit

def DrawBlk (w : World) (e : Ending) (w' : World) : Prop :=
  ∃ A n c ts, e = .returned (.slice A n c) ∧ BlksAt w' w'.heap.size A n ts ∧ n ≤ 25 ∧ Below w.heap.size w w'
def DrawBlk2 (w : World) (e : Ending) (w' : World) : Prop :=
  ∃ A n c ts a, e = .returned (.tuple #[.slice A n c, .int .i64 a]) ∧ BlksAt w' w'.heap.size A n ts ∧ n ≤ 25 ∧ Below w.heap.size w w'
def DrawBlk3 (w : World) (e : Ending) (w' : World) : Prop :=
  ∃ A n c ts a b, e = .returned (.tuple #[.slice A n c, .int .i64 a, .int .i64 b]) ∧ BlksAt w' w'.heap.size A n ts ∧ n ≤ 25 ∧ Below w.heap.size w w'

theorem BlksAt.only {w w' : World} {A : Option Addr} {n g : Nat} {ts : List Blk} (h : BlksAt w w.heap.size A n ts) (ho : Only (some ⟨g, 0, none⟩) w w') (hg : ∀ ad, A = some ad → g < ad.block) : BlksAt w' w'.heap.size A n ts :=
  ⟨h.1, fun k hk => by
    obtain ⟨b, off, e, hb, h1, h2⟩ := h.2 k hk
    have hbg : w'.heap[b]? = w.heap[b]? := ho.block b (fun ad e' => by cases e'; have := hg _ e; exact Nat.ne_of_gt this)
    exact ⟨b, off, e, by rw [ho.size]; exact hb, (World.cell?_of_block (a := ⟨b, off + k * 2, none⟩) hbg).trans h1, (World.cell?_of_block (a := ⟨b, off + k * 2 + 1, none⟩) hbg).trans h2⟩⟩

/-- What is kept while numbers are drawn behind a tree. -/
structure Drew (w0 w : World) (g B lim : Nat) (A : Option Addr) (n : Nat) (ts : List Blk) : Prop where
  blk : BlksAt w w.heap.size A n ts
  far : ∀ ad, A = some ad → g < ad.block
  cur : CurOk w g B lim
  bel : Below w0.heap.size w0 w
  low : w0.heap.size ≤ g
theorem Drew.only {w0 w w' : World} {g B lim lim' n : Nat} {A : Option Addr} {ts : List Blk} (h : Drew w0 w g B lim A n ts) (ho : Only (some ⟨g, 0, none⟩) w w') (hc : CurOk w' g B lim') : Drew w0 w' g B lim' A n ts :=
  ⟨h.blk.only ho h.far, h.far, hc, h.bel.trans (ho.below (fun ad e => by cases e; exact h.low)), h.low⟩

/-- A tree drawn from a new cursor. -/
theorem newTree_any (A : Option Addr) (n c : Nat) (w : World) (h : BytesIn w A n) (hn : n ≤ 1048576) :
    Calls Try.prog 89 #[.pointer (some ⟨w.heap.size, 0, none⟩)] (w.alloc (.cells #[.slice A n c, .int .i64 0, .int .u64 0] 85)) fun e w' =>
      ∃ A1 n1 c1 ts, e = .returned (.slice A1 n1 c1) ∧ 1 ≤ n1 ∧ n1 ≤ 25 ∧ Drew w w' w.heap.size (w.heap.size + 1) 200 A1 n1 ts := by
  refine (tree_any w.heap.size (w.heap.size + 1) 0 _ (cur_new (c := c) h hn) (by simp) (by decide)).mono ?_
  rintro e w1 ⟨A1, n1, c1, ts, rfl, hb, hfar, h1, h2, hc, hg⟩
  exact ⟨A1, n1, c1, ts, rfl, h1, h2, ⟨hb, fun ad e => by have := hfar ad e; simp at this; omega, hc.more (by omega), grew_new hg, Nat.le_refl _⟩⟩

set_option maxRecDepth 100000 in
set_option maxHeartbeats 800000 in
theorem drawWay_any (A : Option Addr) (n c : Nat) (w : World) (h : BytesIn w A n) (hn : n ≤ 1048576) :
    Calls Try.prog 24 #[.slice A n c] w (DrawBlk2 w) := by
  go_enter Try.func24, Try.ntmps24
  go_wp2_with fail
  refine (newTree_any A n c w h hn).mono ?_
  rintro e w1 ⟨A1, n1, c1, ts, rfl, h1, h2, hd⟩
  have hd1 := Lib.hid hd; clear hd
  go_wp2_with fail
  refine (pick_any w.heap.size (w.heap.size + 1) 200 _ w1 hd1.out.cur (by decide) (by omega)).mono ?_
  rintro e w2 ⟨x, rfl, x0, x1, c2, o2⟩
  have hd2 := Lib.hid (hd1.out.only o2 c2)
  clear c2 o2
  go_wp2_with fail
  go_ret2
  exact ⟨_, _, _, ts, _, rfl, hd2.out.blk, h2, hd2.out.bel⟩

set_option maxRecDepth 100000 in
set_option maxHeartbeats 800000 in
theorem drawAbove_any (A : Option Addr) (n c : Nat) (w : World) (h : BytesIn w A n) (hn : n ≤ 1048576) :
    Calls Try.prog 77 #[.slice A n c] w (DrawBlk3 w) := by
  go_enter Try.func77, Try.ntmps77
  go_wp2_with fail
  refine (newTree_any A n c w h hn).mono ?_
  rintro e w1 ⟨A1, n1, c1, ts, rfl, h1, h2, hd⟩
  have hd1 := Lib.hid hd; clear hd
  go_wp2_with fail
  refine (pick_any w.heap.size (w.heap.size + 1) 200 _ w1 hd1.out.cur (by decide) (by omega)).mono ?_
  rintro e w2 ⟨x, rfl, x0, x1, c2, o2⟩
  have hd2 := Lib.hid (hd1.out.only o2 c2)
  have hx : x ≤ 25 := by omega
  clear c2 o2 x1
  go_wp2_with fail
  refine (pick_any w.heap.size (w.heap.size + 1) 202 _ w2 hd2.out.cur (by decide) (by decide)).mono ?_
  rintro e w3 ⟨y, rfl, y0, y1, c3, o3⟩
  have hd3 := Lib.hid (hd2.out.only o3 c3)
  have hy : y ≤ 8 := by omega
  clear c3 o3 y1
  go_wp2_with fail
  refine (pick_any w.heap.size (w.heap.size + 1) 204 _ w3 hd3.out.cur (by decide) (by decide)).mono ?_
  rintro e w4 ⟨z, rfl, z0, z1, c4, o4⟩
  have hd4 := Lib.hid (hd3.out.only o4 c4)
  have hz : z ≤ 8 := by omega
  clear c4 o4 z1
  go_wp2_with fail
  refine (pick_any w.heap.size (w.heap.size + 1) 206 _ w4 hd4.out.cur (by decide) (by omega)).mono ?_
  rintro e w5 ⟨v, rfl, v0, v1, c5, o5⟩
  have hd5 := Lib.hid (hd4.out.only o5 c5)
  have hv : v ≤ 100 := by omega
  clear c5 o5 v1
  go_wp2_with fail
  refine (pick_any w.heap.size (w.heap.size + 1) 208 _ w5 hd5.out.cur (by decide) (by decide)).mono ?_
  rintro e w6 ⟨u, rfl, u0, u1, c6, o6⟩
  have hd6 := Lib.hid (hd5.out.only o6 c6)
  have hu : u ≤ 8 := by omega
  clear c6 o6 u1
  go_wp2_with fail
  go_ret3
  exact ⟨_, _, _, ts, _, _, rfl, hd6.out.blk, h2, hd6.out.bel⟩

theorem drawMeet_any (A : Option Addr) (n c : Nat) (w : World) (h : BytesIn w A n) (hn : n ≤ 1048576) :
    Calls Try.prog 15 #[.slice A n c] w (DrawBlk3 w) := by
  go_enter Try.func15, Try.ntmps15
  go_wp2_with fail
  refine (drawAbove_any A n c w h hn).mono ?_
  rintro e w1 ⟨A1, n1, c1, ts, a, b, rfl, h1, h2, h3⟩
  have h1' := Lib.hid h1; clear h1
  go_wp2_with fail
  go_ret3
  exact ⟨_, _, _, ts, _, _, rfl, h1'.out, h2, h3⟩
end Go.Proofs.Ytoppgckmcclfpaa
