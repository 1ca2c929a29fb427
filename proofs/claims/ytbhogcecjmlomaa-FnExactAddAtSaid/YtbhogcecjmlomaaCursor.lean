/- What is proved here: what the model's cursor over some bytes does: each step returns a small number and changes nothing but the cursor's own block and new memory. No conditions beside that the cursor is one. -/
import Derived.Test.YtbhogcecjmlomaaOwn
import Derived.OpenShut
namespace Go.Proofs.Ytbhogcecjmlomaa
open Go.RowKit

/-- The slice with the address A and n elements holds bytes, in a block below B other than g. -/
def BytesAt (w : World) (B g : Nat) (A : Option Addr) (n : Nat) : Prop :=
  ∀ k, k < n → ∃ b off x, A = some ⟨b, off, none⟩ ∧ b ≠ g ∧ b < B ∧ 0 ≤ x ∧ x ≤ 255 ∧ w.cell? ⟨b, off + k, none⟩ = some (.int .u8 x)
/-- Block g, below B, holds a cursor, at a place up to lim. -/
def CurOk (w : World) (g B lim : Nat) : Prop :=
  g < B ∧ ∃ (A : Option Addr) (n c at_ : Nat) (sd : Int), w.heap[g]? = some (.cells #[.slice A n c, .int .i64 (at_ : Int), .int .u64 sd] 110 (0, 0)) ∧ at_ ≤ lim ∧ n ≤ 1048576 ∧ 0 ≤ sd ∧ sd ≤ 18446744073709551615 ∧ BytesAt w B g A n

/-- Of the blocks below B, g alone may have changed. -/
structure Grew (g B : Nat) (w w' : World) : Prop where
  os : w'.os = w.os
  tape : w'.tape = w.tape
  output : w'.output = w.output
  size : w.heap.size ≤ w'.heap.size
  block : ∀ k, k < B → k ≠ g → w'.heap[k]? = w.heap[k]?
theorem Grew.refl (g B : Nat) (w : World) : Grew g B w w := ⟨rfl, rfl, rfl, Nat.le_refl _, fun _ _ _ => rfl⟩
theorem Grew.trans {g B : Nat} {a b c : World} (h : Grew g B a b) (k : Grew g B b c) : Grew g B a c :=
  ⟨k.os.trans h.os, k.tape.trans h.tape, k.output.trans h.output, Nat.le_trans h.size k.size, fun i hi hn => (k.block i hi hn).trans (h.block i hi hn)⟩
theorem Grew.mono {g B B' : Nat} {w w' : World} (h : Grew g B w w') (hB : B' ≤ B) : Grew g B' w w' :=
  ⟨h.os, h.tape, h.output, h.size, fun k hk hn => h.block k (Nat.lt_of_lt_of_le hk hB) hn⟩
theorem Grew.of_only {g B : Nat} {w w' : World} (h : Only (some ⟨g, 0, none⟩) w w') : Grew g B w w' :=
  ⟨h.os, h.tape, h.output, by rw [h.size]; exact Nat.le_refl _, fun k _ hn => h.block k (fun ad e => by cases e; exact hn)⟩
theorem Grew.of_below {g B : Nat} {w w' : World} (h : Below B w w') : Grew g B w w' := ⟨h.os, h.tape, h.output, h.size, fun k hk _ => h.block k hk⟩
theorem Grew.below {g B : Nat} {w w' : World} (h : Grew g B w w') (hg : B ≤ g) : Below B w w' :=
  ⟨h.os, h.tape, h.output, h.size, fun k hk => h.block k hk (by omega)⟩
theorem Grew.alloc {g B : Nat} {w w' : World} (h : Grew g B w w') (hB : B ≤ w'.heap.size) (o : Obj) : Grew g B w (w'.alloc o) :=
  h.trans (Grew.of_below ((Below.refl _ _).alloc hB o))
theorem Grew.cell {g B : Nat} {w w' : World} (h : Grew g B w w') {p : Addr} (hp : p.block < B) (hg : p.block ≠ g) : w'.cell? p = w.cell? p := World.cell?_of_block (w := w) (h.block p.block hp hg)

theorem BytesAt.keep {w w' : World} {B g n : Nat} {A : Option Addr} (h : BytesAt w B g A n) (ho : ∀ k, k < B → k ≠ g → w'.heap[k]? = w.heap[k]?) : BytesAt w' B g A n := fun k hk => by
  obtain ⟨b, off, x, e, hb, hlt, h0, h1, hc⟩ := h k hk
  exact ⟨b, off, x, e, hb, hlt, h0, h1, (World.cell?_of_block (a := ⟨b, off + k, none⟩) (ho b hlt hb)).trans hc⟩
theorem CurOk.keep {w w' : World} {g B lim : Nat} (h : CurOk w g B lim) (ho : ∀ k, k < B → w'.heap[k]? = w.heap[k]?) : CurOk w' g B lim := by
  obtain ⟨hg, A, n, c, at_, sd, hb, h1, h2, h3, h4, h5⟩ := h
  exact ⟨hg, A, n, c, at_, sd, (ho g hg).trans hb, h1, h2, h3, h4, h5.keep (fun k hk _ => ho k hk)⟩
theorem CurOk.more {w : World} {g B lim lim' : Nat} (h : CurOk w g B lim) (hl : lim ≤ lim') : CurOk w g B lim' := by
  obtain ⟨hg, A, n, c, at_, sd, hb, h1, h2⟩ := h
  exact ⟨hg, A, n, c, at_, sd, hb, by omega, h2⟩
theorem CurOk.below {w w' : World} {g B lim : Nat} (h : CurOk w g B lim) (hb : Below B w w') : CurOk w' g B lim := h.keep hb.block
theorem CurOk.lt {w : World} {g B lim : Nat} (h : CurOk w g B lim) : g < w.heap.size := by
  obtain ⟨_, A, n, c, at_, sd, hb, _⟩ := h
  exact (Array.getElem?_eq_some_iff.1 hb).1

def NextPost (w : World) (g B lim : Nat) (e : Ending) (w' : World) : Prop :=
  ∃ x : Int, e = .returned (.int .i64 x) ∧ 0 ≤ x ∧ x ≤ 255 ∧ CurOk w' g B (lim + 1) ∧ Only (some ⟨g, 0, none⟩) w w'

theorem u64_wrap_bd (z : Int) : 0 ≤ IntKind.u64.wrap z ∧ IntKind.u64.wrap z ≤ 18446744073709551615 := by
  rw [IntKind.wrap_u64]; omega
theorem low8 {z : Int} (h0 : 0 ≤ z) (h1 : z ≤ 18446744073709551615) : 0 ≤ wrap64 (bits .and .u64 (z / 1099511627776) 255) ∧ wrap64 (bits .and .u64 (z / 1099511627776) 255) ≤ 255 := by
  have e := u64_and (z / 1099511627776) 255 (by omega) (by omega) (by omega) (by omega)
  have hle : (z / 1099511627776).toNat &&& (255 : Int).toNat ≤ 255 := Nat.and_le_right
  rw [e]
  generalize ((z / 1099511627776).toNat &&& (255 : Int).toNat) = y at hle
  unfold wrap64; omega
theorem cur_step {w : World} {g B lim n c at_ : Nat} {A : Option Addr} {sd sd' : Int} {a b : Nat} (hg : g < B) (hblk : w.heap[g]? = some (.cells #[.slice A n c, .int .i64 (at_ : Int), .int .u64 sd] 110 (0, 0)))
    (hat : at_ ≤ lim) (hn : n ≤ 1048576) (hby : BytesAt w B g A n) (h0 : 0 ≤ sd') (h1 : sd' ≤ 18446744073709551615) :
    CurOk ((((w.drewN a).setCell ⟨g, 1, none⟩ (.int .i64 ((at_ : Int) + 1))).setCell ⟨g, 2, none⟩ (.int .u64 sd')).drewN b) g B (lim + 1) ∧
      Only (some ⟨g, 0, none⟩) w ((((w.drewN a).setCell ⟨g, 1, none⟩ (.int .i64 ((at_ : Int) + 1))).setCell ⟨g, 2, none⟩ (.int .u64 sd')).drewN b) := by
  have hother : ∀ k, k ≠ g → ((((w.drewN a).setCell ⟨g, 1, none⟩ (.int .i64 ((at_ : Int) + 1))).setCell ⟨g, 2, none⟩ (.int .u64 sd')).drewN b).heap[k]? = w.heap[k]? := fun k hk =>
    (Below.heap_setCell _ ⟨g, 2, none⟩ _ k hk).trans (Below.heap_setCell (w.drewN a) ⟨g, 1, none⟩ _ k hk)
  have hsize : ((((w.drewN a).setCell ⟨g, 1, none⟩ (.int .i64 ((at_ : Int) + 1))).setCell ⟨g, 2, none⟩ (.int .u64 sd')).drewN b).heap.size = w.heap.size := by
    show (((w.drewN a).setCell ⟨g, 1, none⟩ (.int .i64 ((at_ : Int) + 1))).setCell ⟨g, 2, none⟩ (.int .u64 sd')).heap.size = _
    simp [World.setCell]
  refine ⟨⟨hg, A, n, c, at_ + 1, sd', ?_, by omega, hn, h0, h1, hby.keep (fun k _ hk => hother k hk)⟩, ⟨rfl, rfl, rfl, hsize, fun k hk => hother k (hk _ rfl)⟩⟩
  show (((w.drewN a).setCell ⟨g, 1, none⟩ (.int .i64 ((at_ : Int) + 1))).setCell ⟨g, 2, none⟩ (.int .u64 sd')).heap[g]? = _
  simp [World.setCell, Array.getElem?_modify, hblk]

set_option maxHeartbeats 1600000 in
set_option maxRecDepth 100000 in
theorem next_any (g B lim : Nat) (w : World) (h : CurOk w g B lim) (hlim : lim ≤ 1099511627776) :
    Calls Try.prog 133 #[.pointer (some ⟨g, 0, none⟩)] w (NextPost w g B lim) := by
  obtain ⟨hg, A, n, c, at_, sd, hblk, hat, hn, hs0, hs1, hby⟩ := h
  have hc0 : w.cell? ⟨g, 0, none⟩ = some (.slice A n c) := by simp [World.cell?, hblk]
  have hc1 : w.cell? ⟨g, 1, none⟩ = some (.int .i64 (at_ : Int)) := by simp [World.cell?, hblk]
  have hc2 : w.cell? ⟨g, 2, none⟩ = some (.int .u64 sd) := by simp [World.cell?, hblk]
  have hf1 : w.frozen? ⟨g, 1, none⟩ = false := by simp [World.frozen?, hblk]
  have hf2 : w.frozen? ⟨g, 2, none⟩ = false := by simp [World.frozen?, hblk]
  have hblk' := Lib.hid hblk; clear hblk
  have hby' := Lib.hid hby; clear hby
  by_cases hlt : at_ < n
  · obtain ⟨b, off, x, rfl, hbg, hbs, hx0, hx1, hcx⟩ := hby'.out at_ hlt
    have hlt' : (at_ : Int) < (n : Int) := by omega
    go_enter Try.func133, Try.ntmps133
    go_wp2
    go_quiet (fail)
    go_wp2
    go_quiet (fail)
    go_wp2
    go_quiet (fail)
    go_wp2
    go_ret
    obtain ⟨k1, k2⟩ := cur_step (a := _) (b := _) hg hblk'.out hat hn hby'.out (u64_wrap_bd _).1 (u64_wrap_bd _).2
    exact ⟨x, rfl, hx0, hx1, k1, k2⟩
  · have hlt' : ¬ (at_ : Int) < (n : Int) := by omega
    go_enter Try.func133, Try.ntmps133
    go_wp2
    go_quiet (fail)
    go_wp2
    go_quiet (fail)
    go_wp2
    go_ret
    obtain ⟨k1, k2⟩ := cur_step (a := _) (b := _) hg hblk'.out hat hn hby'.out (u64_wrap_bd _).1 (u64_wrap_bd _).2
    exact ⟨_, rfl, (low8 (u64_wrap_bd _).1 (u64_wrap_bd _).2).1, (low8 (u64_wrap_bd _).1 (u64_wrap_bd _).2).2, k1, k2⟩

theorem Only.trans {A : Option Addr} {a b c : World} (h : Only A a b) (k : Only A b c) : Only A a c :=
  ⟨k.os.trans h.os, k.tape.trans h.tape, k.output.trans h.output, k.size.trans h.size, fun i hi => (k.block i hi).trans (h.block i hi)⟩

def PickPost (w : World) (g B lim : Nat) (n : Int) (e : Ending) (w' : World) : Prop :=
  ∃ x : Int, e = .returned (.int .i64 x) ∧ 0 ≤ x ∧ (x < n ∨ x = 0) ∧ CurOk w' g B (lim + 2) ∧ Only (some ⟨g, 0, none⟩) w w'

set_option maxHeartbeats 800000 in
theorem pick_any (g B lim : Nat) (n : Int) (w : World) (h : CurOk w g B lim) (hlim : lim ≤ 549755813888) (hn : n ≤ 1099511627776) :
    Calls Try.prog 91 #[.pointer (some ⟨g, 0, none⟩), .int .i64 n] w (PickPost w g B lim n) := by
  by_cases h1 : n ≤ 1
  · have hf := Lib.hid (show PickPost w g B lim n (.returned (.int .i64 0)) w from ⟨0, rfl, Int.le_refl _, .inr rfl, h.more (by omega), Only.refl _ _⟩)
    clear h
    go_enter Try.func91, Try.ntmps91
    go_wp2
    go_ret
    exact hf.out
  · by_cases h2 : 200 < n
    · go_enter Try.func91, Try.ntmps91
      go_wp2_with fail
      refine (next_any g B lim w h (by omega)).mono ?_
      rintro e w1 ⟨x, rfl, x0, x1, c1, o1⟩
      go_wp2_with fail
      refine (next_any g B (lim + 1) w1 c1 (by omega)).mono ?_
      rintro e w2 ⟨y, rfl, y0, y1, c2, o2⟩
      have o12 := Lib.hid (o1.trans o2); clear o1 o2 c1
      have c2' := Lib.hid c2; clear c2
      have m1 := Int.emod_nonneg (x * 256 + y) (show n ≠ 0 by omega)
      have m2 := Int.emod_lt_of_pos (x * 256 + y) (show 0 < n by omega)
      go_wp2
      go_ret
      exact ⟨_, rfl, m1, .inl m2, c2'.out, o12.out⟩
    · go_enter Try.func91, Try.ntmps91
      go_wp2_with fail
      refine (next_any g B lim w h (by omega)).mono ?_
      rintro e w1 ⟨x, rfl, x0, x1, c1, o1⟩
      have c1' := Lib.hid (c1.more (show lim + 1 ≤ lim + 2 by omega)); clear c1
      have m1 := Int.emod_nonneg x (show n ≠ 0 by omega)
      have m2 := Int.emod_lt_of_pos x (show 0 < n by omega)
      go_wp2
      go_ret
      exact ⟨_, rfl, m1, .inl m2, c1'.out, o1⟩

def OnePost (w : World) (g B lim : Nat) (e : Ending) (w' : World) : Prop :=
  ∃ b : Bool, e = .returned (.bool b) ∧ CurOk w' g B (lim + 2) ∧ Only (some ⟨g, 0, none⟩) w w'
theorem one_any (g B lim : Nat) (n : Int) (w : World) (h : CurOk w g B lim) (hlim : lim ≤ 549755813888) (hn : n ≤ 1099511627776) :
    Calls Try.prog 101 #[.pointer (some ⟨g, 0, none⟩), .int .i64 n] w (OnePost w g B lim) := by
  go_enter Try.func101, Try.ntmps101
  go_wp2_with fail
  refine (pick_any g B lim n w h hlim hn).mono ?_
  rintro e w1 ⟨x, rfl, x0, x1, c1, o1⟩
  clear x1
  go_wp2
  go_ret
  exact ⟨_, rfl, c1, o1⟩

def AmongPost (w : World) (g B lim m : Nat) (xs : List Int) (e : Ending) (w' : World) : Prop :=
  ∃ k : Nat, k < m ∧ e = .returned (.int .i64 (xs[k]?.getD 0)) ∧ CurOk w' g B (lim + 2) ∧ Only (some ⟨g, 0, none⟩) w w'
theorem among_any (g B lim m c B' : Nat) (A : Option Addr) (xs : List Int) (w : World) (h : CurOk w g B lim) (hlim : lim ≤ 549755813888) (hx : IntsAt w B' A m xs) (hm : m ≤ 1048576) (hm1 : 0 < m) (hg : ∀ ad, A = some ad → ad.block ≠ g) :
    Calls Try.prog 113 #[.pointer (some ⟨g, 0, none⟩), .slice A m c] w (AmongPost w g B lim m xs) := by
  go_enter Try.func113, Try.ntmps113
  go_wp2_with fail
  refine (pick_any g B lim (m : Int) w h hlim (by omega)).mono ?_
  rintro e w1 ⟨x, rfl, x0, x1, c1, o1⟩
  have x2 : x < (m : Int) := by omega
  obtain ⟨k, rfl⟩ := Int.eq_ofNat_of_zero_le x0
  have hk : k < m := by omega
  obtain ⟨b, off, rfl, _, hc0⟩ := hx.2 k hk
  have hc : w1.cell? ⟨b, off + k, none⟩ = some (.int .i64 (xs[k]?.getD 0)) := (World.cell?_of_block (a := ⟨b, off + k, none⟩) (o1.block b (fun ad e => by cases e; exact hg _ rfl))).trans hc0
  clear x1 hc0
  go_wp2
  go_ret
  exact ⟨k, hk, rfl, c1, o1⟩
end Go.Proofs.Ytbhogcecjmlomaa
