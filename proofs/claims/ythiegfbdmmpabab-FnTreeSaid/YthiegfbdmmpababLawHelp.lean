/- What is proved here: what the model's cursor over some bytes does: each step returns a small number and changes nothing but the cursor's own block and new memory. No conditions beside that the cursor is one. -/
import Derived.Test.YthiegfbdmmpababOwn
import Derived.OpenShut
namespace Go.Proofs.Ythiegfbdmmpabab
open Go.RowKit

/-- The slice with the address A and n elements holds bytes, in a block below B other than g. -/
def BytesAt (w : World) (B g : Nat) (A : Option Addr) (n : Nat) : Prop :=
  ∀ k, k < n → ∃ b off x, A = some ⟨b, off, none⟩ ∧ b ≠ g ∧ b < B ∧ 0 ≤ x ∧ x ≤ 255 ∧ w.cell? ⟨b, off + k, none⟩ = some (.int .u8 x)
/-- Block g, below B, holds a cursor, at a place up to lim. -/
def CurOk (w : World) (g B lim : Nat) : Prop :=
  g < B ∧ ∃ (A : Option Addr) (n c at_ : Nat) (sd : Int), w.heap[g]? = some (.cells #[.slice A n c, .int .i64 (at_ : Int), .int .u64 sd] 76 (0, 0)) ∧ at_ ≤ lim ∧ n ≤ 1048576 ∧ 0 ≤ sd ∧ sd ≤ 18446744073709551615 ∧ BytesAt w B g A n

/-- Of the blocks below B, g alone may have changed. -/
structure Grew (g B : Nat) (w w' : World) : Prop where
  os : w'.os = w.os
  tape : w'.tape = w.tape
  output : w'.output = w.output
  size : w.heap.size ≤ w'.heap.size
  block : ∀ k, k < B → k ≠ g → w'.heap[k]? = w.heap[k]?
theorem Grew.refl (g B : Nat) (w : World) : Grew g B w w := ⟨rfl, rfl, rfl, Nat.le_refl _, fun _ _ _ => rfl⟩
theorem Grew.trans {g B : Nat} {a b c : World} (h : Grew g B a b) (k : Grew g B b c) : Grew g B a c :=
  ⟨k.os.trans h.os, k.tape.trans h.tape, k.output.trans h.output, Nat.le_trans h.size k.size, fun i hi hn => (k.block i hi hn).trans (h.block i hi hn)⟩
theorem Grew.mono {g B B' : Nat} {w w' : World} (h : Grew g B w w') (hB : B' ≤ B) : Grew g B' w w' :=
  ⟨h.os, h.tape, h.output, h.size, fun k hk hn => h.block k (Nat.lt_of_lt_of_le hk hB) hn⟩
theorem Grew.of_only {g B : Nat} {w w' : World} (h : Only (some ⟨g, 0, none⟩) w w') : Grew g B w w' :=
  ⟨h.os, h.tape, h.output, by rw [h.size]; exact Nat.le_refl _, fun k _ hn => h.block k (fun ad e => by cases e; exact hn)⟩
theorem Grew.of_below {g B : Nat} {w w' : World} (h : Below B w w') : Grew g B w w' := ⟨h.os, h.tape, h.output, h.size, fun k hk _ => h.block k hk⟩
theorem Grew.below {g B : Nat} {w w' : World} (h : Grew g B w w') (hg : B ≤ g) : Below B w w' :=
  ⟨h.os, h.tape, h.output, h.size, fun k hk => h.block k hk (by omega)⟩
theorem Grew.alloc {g B : Nat} {w w' : World} (h : Grew g B w w') (hB : B ≤ w'.heap.size) (o : Obj) : Grew g B w (w'.alloc o) :=
  h.trans (Grew.of_below ((Below.refl _ _).alloc hB o))
theorem Grew.cell {g B : Nat} {w w' : World} (h : Grew g B w w') {p : Addr} (hp : p.block < B) (hg : p.block ≠ g) : w'.cell? p = w.cell? p := World.cell?_of_block (w := w) (h.block p.block hp hg)

theorem BytesAt.keep {w w' : World} {B g n : Nat} {A : Option Addr} (h : BytesAt w B g A n) (ho : ∀ k, k < B → k ≠ g → w'.heap[k]? = w.heap[k]?) : BytesAt w' B g A n := fun k hk => by
  obtain ⟨b, off, x, e, hb, hlt, h0, h1, hc⟩ := h k hk
  exact ⟨b, off, x, e, hb, hlt, h0, h1, (World.cell?_of_block (a := ⟨b, off + k, none⟩) (ho b hlt hb)).trans hc⟩
theorem CurOk.keep {w w' : World} {g B lim : Nat} (h : CurOk w g B lim) (ho : ∀ k, k < B → w'.heap[k]? = w.heap[k]?) : CurOk w' g B lim := by
  obtain ⟨hg, A, n, c, at_, sd, hb, h1, h2, h3, h4, h5⟩ := h
  exact ⟨hg, A, n, c, at_, sd, (ho g hg).trans hb, h1, h2, h3, h4, h5.keep (fun k hk _ => ho k hk)⟩
theorem CurOk.more {w : World} {g B lim lim' : Nat} (h : CurOk w g B lim) (hl : lim ≤ lim') : CurOk w g B lim' := by
  obtain ⟨hg, A, n, c, at_, sd, hb, h1, h2⟩ := h
  exact ⟨hg, A, n, c, at_, sd, hb, by omega, h2⟩
theorem CurOk.below {w w' : World} {g B lim : Nat} (h : CurOk w g B lim) (hb : Below B w w') : CurOk w' g B lim := h.keep hb.block
theorem CurOk.lt {w : World} {g B lim : Nat} (h : CurOk w g B lim) : g < w.heap.size := by
  obtain ⟨_, A, n, c, at_, sd, hb, _⟩ := h
  exact (Array.getElem?_eq_some_iff.1 hb).1

def NextPost (w : World) (g B lim : Nat) (e : Ending) (w' : World) : Prop :=
  ∃ x : Int, e = .returned (.int .i64 x) ∧ 0 ≤ x ∧ x ≤ 255 ∧ CurOk w' g B (lim + 1) ∧ Only (some ⟨g, 0, none⟩) w w'

theorem u64_wrap_bd (z : Int) : 0 ≤ IntKind.u64.wrap z ∧ IntKind.u64.wrap z ≤ 18446744073709551615 := by
  rw [IntKind.wrap_u64]; omega
theorem low8 {z : Int} (h0 : 0 ≤ z) (h1 : z ≤ 18446744073709551615) : 0 ≤ wrap64 (bits .and .u64 (z / 1099511627776) 255) ∧ wrap64 (bits .and .u64 (z / 1099511627776) 255) ≤ 255 := by
  have e := u64_and (z / 1099511627776) 255 (by omega) (by omega) (by omega) (by omega)
  have hle : (z / 1099511627776).toNat &&& (255 : Int).toNat ≤ 255 := Nat.and_le_right
  rw [e]
  generalize ((z / 1099511627776).toNat &&& (255 : Int).toNat) = y at hle
  unfold wrap64; omega
theorem cur_step {w : World} {g B lim n c at_ : Nat} {A : Option Addr} {sd sd' : Int} {a b : Nat} (hg : g < B) (hblk : w.heap[g]? = some (.cells #[.slice A n c, .int .i64 (at_ : Int), .int .u64 sd] 76 (0, 0)))
    (hat : at_ ≤ lim) (hn : n ≤ 1048576) (hby : BytesAt w B g A n) (h0 : 0 ≤ sd') (h1 : sd' ≤ 18446744073709551615) :
    CurOk ((((w.drewN a).setCell ⟨g, 1, none⟩ (.int .i64 ((at_ : Int) + 1))).setCell ⟨g, 2, none⟩ (.int .u64 sd')).drewN b) g B (lim + 1) ∧
      Only (some ⟨g, 0, none⟩) w ((((w.drewN a).setCell ⟨g, 1, none⟩ (.int .i64 ((at_ : Int) + 1))).setCell ⟨g, 2, none⟩ (.int .u64 sd')).drewN b) := by
  have hother : ∀ k, k ≠ g → ((((w.drewN a).setCell ⟨g, 1, none⟩ (.int .i64 ((at_ : Int) + 1))).setCell ⟨g, 2, none⟩ (.int .u64 sd')).drewN b).heap[k]? = w.heap[k]? := fun k hk =>
    (Below.heap_setCell _ ⟨g, 2, none⟩ _ k hk).trans (Below.heap_setCell (w.drewN a) ⟨g, 1, none⟩ _ k hk)
  have hsize : ((((w.drewN a).setCell ⟨g, 1, none⟩ (.int .i64 ((at_ : Int) + 1))).setCell ⟨g, 2, none⟩ (.int .u64 sd')).drewN b).heap.size = w.heap.size := by
    show (((w.drewN a).setCell ⟨g, 1, none⟩ (.int .i64 ((at_ : Int) + 1))).setCell ⟨g, 2, none⟩ (.int .u64 sd')).heap.size = _
    simp [World.setCell]
  refine ⟨⟨hg, A, n, c, at_ + 1, sd', ?_, by omega, hn, h0, h1, hby.keep (fun k _ hk => hother k hk)⟩, ⟨rfl, rfl, rfl, hsize, fun k hk => hother k (hk _ rfl)⟩⟩
  show (((w.drewN a).setCell ⟨g, 1, none⟩ (.int .i64 ((at_ : Int) + 1))).setCell ⟨g, 2, none⟩ (.int .u64 sd')).heap[g]? = _
  simp [World.setCell, Array.getElem?_modify, hblk]

set_option maxHeartbeats 1600000 in
set_option maxRecDepth 100000 in
theorem next_any (g B lim : Nat) (w : World) (h : CurOk w g B lim) (hlim : lim ≤ 1099511627776) :
    Calls Try.prog 122 #[.pointer (some ⟨g, 0, none⟩)] w (NextPost w g B lim) := by
  obtain ⟨hg, A, n, c, at_, sd, hblk, hat, hn, hs0, hs1, hby⟩ := h
  have hc0 : w.cell? ⟨g, 0, none⟩ = some (.slice A n c) := by simp [World.cell?, hblk]
  have hc1 : w.cell? ⟨g, 1, none⟩ = some (.int .i64 (at_ : Int)) := by simp [World.cell?, hblk]
  have hc2 : w.cell? ⟨g, 2, none⟩ = some (.int .u64 sd) := by simp [World.cell?, hblk]
  have hf1 : w.frozen? ⟨g, 1, none⟩ = false := by simp [World.frozen?, hblk]
  have hf2 : w.frozen? ⟨g, 2, none⟩ = false := by simp [World.frozen?, hblk]
  have hblk' := Lib.hid hblk; clear hblk
  have hby' := Lib.hid hby; clear hby
  by_cases hlt : at_ < n
  · obtain ⟨b, off, x, rfl, hbg, hbs, hx0, hx1, hcx⟩ := hby'.out at_ hlt
    have hlt' : (at_ : Int) < (n : Int) := by omega
    go_enter Try.func122, Try.ntmps122
    go_wp2
    go_quiet (fail)
    go_wp2
    go_quiet (fail)
    go_wp2
    go_quiet (fail)
    go_wp2
    go_ret
    obtain ⟨k1, k2⟩ := cur_step (a := _) (b := _) hg hblk'.out hat hn hby'.out (u64_wrap_bd _).1 (u64_wrap_bd _).2
    exact ⟨x, rfl, hx0, hx1, k1, k2⟩
  · have hlt' : ¬ (at_ : Int) < (n : Int) := by omega
    go_enter Try.func122, Try.ntmps122
    go_wp2
    go_quiet (fail)
    go_wp2
    go_quiet (fail)
    go_wp2
    go_ret
    obtain ⟨k1, k2⟩ := cur_step (a := _) (b := _) hg hblk'.out hat hn hby'.out (u64_wrap_bd _).1 (u64_wrap_bd _).2
    exact ⟨_, rfl, (low8 (u64_wrap_bd _).1 (u64_wrap_bd _).2).1, (low8 (u64_wrap_bd _).1 (u64_wrap_bd _).2).2, k1, k2⟩

theorem Only.trans {A : Option Addr} {a b c : World} (h : Only A a b) (k : Only A b c) : Only A a c :=
  ⟨k.os.trans h.os, k.tape.trans h.tape, k.output.trans h.output, k.size.trans h.size, fun i hi => (k.block i hi).trans (h.block i hi)⟩

def PickPost (w : World) (g B lim : Nat) (n : Int) (e : Ending) (w' : World) : Prop :=
  ∃ x : Int, e = .returned (.int .i64 x) ∧ 0 ≤ x ∧ (x < n ∨ x = 0) ∧ CurOk w' g B (lim + 2) ∧ Only (some ⟨g, 0, none⟩) w w'

set_option maxHeartbeats 800000 in
theorem pick_any (g B lim : Nat) (n : Int) (w : World) (h : CurOk w g B lim) (hlim : lim ≤ 549755813888) (hn : n ≤ 1099511627776) :
    Calls Try.prog 69 #[.pointer (some ⟨g, 0, none⟩), .int .i64 n] w (PickPost w g B lim n) := by
  by_cases h1 : n ≤ 1
  · have hf := Lib.hid (show PickPost w g B lim n (.returned (.int .i64 0)) w from ⟨0, rfl, Int.le_refl _, .inr rfl, h.more (by omega), Only.refl _ _⟩)
    clear h
    go_enter Try.func69, Try.ntmps69
    go_wp2
    go_ret
    exact hf.out
  · by_cases h2 : 200 < n
    · go_enter Try.func69, Try.ntmps69
      go_wp2_with fail
      refine (next_any g B lim w h (by omega)).mono ?_
      rintro e w1 ⟨x, rfl, x0, x1, c1, o1⟩
      go_wp2_with fail
      refine (next_any g B (lim + 1) w1 c1 (by omega)).mono ?_
      rintro e w2 ⟨y, rfl, y0, y1, c2, o2⟩
      have o12 := Lib.hid (o1.trans o2); clear o1 o2 c1
      have c2' := Lib.hid c2; clear c2
      have m1 := Int.emod_nonneg (x * 256 + y) (show n ≠ 0 by omega)
      have m2 := Int.emod_lt_of_pos (x * 256 + y) (show 0 < n by omega)
      go_wp2
      go_ret
      exact ⟨_, rfl, m1, .inl m2, c2'.out, o12.out⟩
    · go_enter Try.func69, Try.ntmps69
      go_wp2_with fail
      refine (next_any g B lim w h (by omega)).mono ?_
      rintro e w1 ⟨x, rfl, x0, x1, c1, o1⟩
      have c1' := Lib.hid (c1.more (show lim + 1 ≤ lim + 2 by omega)); clear c1
      have m1 := Int.emod_nonneg x (show n ≠ 0 by omega)
      have m2 := Int.emod_lt_of_pos x (show 0 < n by omega)
      go_wp2
      go_ret
      exact ⟨_, rfl, m1, .inl m2, c1'.out, o1⟩

def OnePost (w : World) (g B lim : Nat) (e : Ending) (w' : World) : Prop :=
  ∃ b : Bool, e = .returned (.bool b) ∧ CurOk w' g B (lim + 2) ∧ Only (some ⟨g, 0, none⟩) w w'
theorem one_any (g B lim : Nat) (n : Int) (w : World) (h : CurOk w g B lim) (hlim : lim ≤ 549755813888) (hn : n ≤ 1099511627776) :
    Calls Try.prog 108 #[.pointer (some ⟨g, 0, none⟩), .int .i64 n] w (OnePost w g B lim) := by
  go_enter Try.func108, Try.ntmps108
  go_wp2_with fail
  refine (pick_any g B lim n w h hlim hn).mono ?_
  rintro e w1 ⟨x, rfl, x0, x1, c1, o1⟩
  clear x1
  go_wp2
  go_ret
  exact ⟨_, rfl, c1, o1⟩

def AmongPost (w : World) (g B lim m : Nat) (xs : List Int) (e : Ending) (w' : World) : Prop :=
  ∃ k : Nat, k < m ∧ e = .returned (.int .i64 (xs[k]?.getD 0)) ∧ CurOk w' g B (lim + 2) ∧ Only (some ⟨g, 0, none⟩) w w'
theorem among_any (g B lim m c B' : Nat) (A : Option Addr) (xs : List Int) (w : World) (h : CurOk w g B lim) (hlim : lim ≤ 549755813888) (hx : IntsAt w B' A m xs) (hm : m ≤ 1048576) (hm1 : 0 < m) (hg : ∀ ad, A = some ad → ad.block ≠ g) :
    Calls Try.prog 68 #[.pointer (some ⟨g, 0, none⟩), .slice A m c] w (AmongPost w g B lim m xs) := by
  go_enter Try.func68, Try.ntmps68
  go_wp2_with fail
  refine (pick_any g B lim (m : Int) w h hlim (by omega)).mono ?_
  rintro e w1 ⟨x, rfl, x0, x1, c1, o1⟩
  have x2 : x < (m : Int) := by omega
  obtain ⟨k, rfl⟩ := Int.eq_ofNat_of_zero_le x0
  have hk : k < m := by omega
  obtain ⟨b, off, rfl, _, hc0⟩ := hx.2 k hk
  have hc : w1.cell? ⟨b, off + k, none⟩ = some (.int .i64 (xs[k]?.getD 0)) := (World.cell?_of_block (a := ⟨b, off + k, none⟩) (o1.block b (fun ad e => by cases e; exact hg _ rfl))).trans hc0
  clear x1 hc0
  go_wp2
  go_ret
  exact ⟨k, hk, rfl, c1, o1⟩
end Go.Proofs.Ythiegfbdmmpabab

/- What is proved here: what the model's draws of stakes and groups make: new slices of few numbers, and nothing else changes but the cursor's own block. No conditions beside that the cursor is one. -/
namespace Go.Proofs.Ythiegfbdmmpabab
open Go.RowKit

def GroupPost (w : World) (g B lim : Nat) (many : Int) (e : Ending) (w' : World) : Prop :=
  ∃ A n c xs, e = .returned (.slice A n c) ∧ OwnAt w' w.heap.size A n xs ∧ (n : Int) ≤ many ∧ CurOk w' g B (lim + 2000) ∧ Grew g w.heap.size w w'

def StakesPost (w : World) (g B lim : Nat) (e : Ending) (w' : World) : Prop :=
  ∃ A n c xs, e = .returned (.slice A n c) ∧ OwnAt w' w.heap.size A n xs ∧ n ≤ 11 ∧ n ≤ c ∧ c ≤ maxLen ∧ CurOk w' g B (lim + 100) ∧ Grew g w.heap.size w w'
/-- Numbers of 0..1001. -/
def Small (xs : List Int) : Prop := ∀ k, k < xs.length → 0 ≤ xs[k]?.getD 0 ∧ xs[k]?.getD 0 ≤ 1001
theorem small_nil : Small [] := fun _ hk => absurd hk (Nat.not_lt_zero _)
theorem small_add {xs : List Int} {x : Int} (h : Small xs) (h0 : 0 ≤ x) (h1 : x ≤ 1001) : Small (xs ++ [x]) := fun k hk => by
  rw [List.length_append] at hk
  by_cases e : k < xs.length
  · rw [List.getElem?_append_left e]; exact h k e
  · have : k = xs.length := by simp at hk; omega
    subst this; simp [h0, h1]
theorem small_set {xs : List Int} {x : Int} (h : Small xs) (h0 : 0 ≤ x) (h1 : x ≤ 1001) : Small (xs.set 0 x) := fun k hk => by
  rw [List.length_set] at hk
  by_cases e : k = 0
  · subst e
    cases xs with
    | nil => simp at hk
    | cons y ys => simp [h0, h1]
  · rw [List.getElem?_set_ne (by omega)]; exact h k hk
theorem three_bd {j : Nat} (_h : j < 3) : 0 ≤ ([0, 1000, 1001] : List Int)[j]?.getD 0 ∧ ([0, 1000, 1001] : List Int)[j]?.getD 0 ≤ 1001 := by
  have : j = 0 ∨ j = 1 ∨ j = 2 := by omega
  rcases this with rfl | rfl | rfl <;> simp
def StakesPost2 (w : World) (g B lim : Nat) (e : Ending) (w' : World) : Prop :=
  ∃ A n c xs, e = .returned (.slice A n c) ∧ OwnAt w' w.heap.size A n xs ∧ n ≤ 11 ∧ n ≤ c ∧ c ≤ maxLen ∧ CurOk w' g B (lim + 100) ∧ Grew g w.heap.size w w' ∧ Hid (Small xs)
end Go.Proofs.Ythiegfbdmmpabab

/- What is proved here: what the model's draw of stakes makes: a new slice of at most eleven numbers, and nothing else changes but the cursor's own block. No conditions beside that the cursor is one. -/
namespace Go.Proofs.Ythiegfbdmmpabab
open Go.RowKit

theorem own_only {w1 w2 : World} {g B n : Nat} {v : Value} {ys : List Value} (h : w1.ownsRow B 3 1 v n ys) (o : Only (some ⟨g, 0, none⟩) w1 w2) (hg : g < B) : w2.ownsRow B 3 1 v n ys :=
  h.kept (row := some g) ⟨o.os, o.tape, o.output, by rw [o.size]; exact Nat.le_refl _, fun i _ hi => o.block i (fun ad e => by cases e; exact fun he => hi (by rw [he]))⟩ (by
    rcases hq : v.ownBlock with _ | q
    · exact .inl rfl
    · right; have := (h.lt q hq).1; intro e; cases e; omega)
theorem owns_cap' {w : World} {B : Nat} {v : Value} {n : Nat} {xs : List Value} (h : w.ownsRow B 3 1 v n xs) : ∀ A m c, v = .slice A m c → m ≤ c ∧ c ≤ maxLen := by
  intro A m c e
  rcases h.2 with ⟨rfl, _⟩ | ⟨g, cap, cur, rfl, _, _, h1, h2, _⟩
  · cases e; exact ⟨Nat.le_refl _, Nat.zero_le _⟩
  · cases e; exact ⟨h1, h2⟩
theorem three_ints (w : World) (x y z : Int) (t : TypeId) : IntsAt (w.alloc (.cells #[.int .i64 x, .int .i64 y, .int .i64 z] t)) (w.heap.size + 1) (some ⟨w.heap.size, 0, none⟩) 3 [x, y, z] :=
  ⟨rfl, fun k hk => ⟨w.heap.size, 0, rfl, Nat.lt_succ_self _, by
    have : k = 0 ∨ k = 1 ∨ k = 2 := by omega
    rcases this with rfl | rfl | rfl <;> simp⟩⟩
theorem own_set0 {w : World} {B n q : Nat} {xs : List Int} {v : Int} (h : OwnAt w B (some ⟨q, 0, none⟩) n xs) (hn : 0 < n) : OwnAt (w.setCell ⟨q, 0, none⟩ (.int .i64 v)) B (some ⟨q, 0, none⟩) n (xs.set 0 v) := by
  obtain ⟨q', m, f, e, hm, hr, hf⟩ := h.own hn
  cases e
  refine ⟨by rw [List.length_set]; exact h.len, fun _ => ⟨q, m, _, rfl, hm, hr.set 0 (.int .i64 v), fun i hi => ?_⟩, fun ad e => ⟨(h.low ad e).1, by simpa [World.setCell] using (h.low ad e).2⟩⟩
  by_cases e : i = 0
  · subst e
    have hl := h.len
    cases xs with
    | nil => simp at hl; omega
    | cons x xs => simp
  · simp only [e, if_false]
    rw [hf i hi, List.getElem?_set_ne (by omega)]

end Go.Proofs.Ythiegfbdmmpabab

/- What is proved here: what the model's draws of whole arguments return, and the law's helpers on numbers, at every slice of bytes. No conditions beside the slice's length. -/
namespace Go.Proofs.Ythiegfbdmmpabab
open Go.RowKit

def BytesIn (w : World) (A : Option Addr) (n : Nat) : Prop := BytesAt w w.heap.size w.heap.size A n
theorem BytesIn.below {w w' : World} {A : Option Addr} {n : Nat} (h : BytesIn w A n) (hb : Below w.heap.size w w') : BytesIn w' A n := fun k hk => by
  obtain ⟨b, off, x, e, _, hlt, h0, h1, hc⟩ := h k hk
  exact ⟨b, off, x, e, by have := hb.size; omega, by have := hb.size; omega, h0, h1, (hb.cell (p := ⟨b, off + k, none⟩) hlt).trans hc⟩
theorem BytesIn.drewN {w : World} {A : Option Addr} {n : Nat} (h : BytesIn w A n) (k : Nat) : BytesIn (w.drewN k) A n := h
theorem cur_new {w : World} {A : Option Addr} {n c : Nat} (h : BytesIn w A n) (hn : n ≤ 1048576) :
    CurOk (w.alloc (.cells #[.slice A n c, .int .i64 0, .int .u64 0] 76)) w.heap.size (w.heap.size + 1) 0 := by
  refine ⟨Nat.lt_succ_self _, A, n, c, 0, 0, heap_alloc_new w _, Nat.le_refl _, hn, Int.le_refl _, by decide, fun k hk => ?_⟩
  obtain ⟨b, off, x, e, _, hlt, h0, h1, hc⟩ := h k hk
  exact ⟨b, off, x, e, by omega, by omega, h0, h1, (World.cell?_alloc_lt w _ ⟨b, off + k, none⟩ hlt).trans hc⟩
theorem new_below (w : World) (o : Obj) : Below w.heap.size w (w.alloc o) := (Below.refl _ _).alloc (Nat.le_refl _) _
theorem grew_new {w w' : World} {o : Obj} (h : Grew w.heap.size (w.alloc o).heap.size (w.alloc o) w') : Below w.heap.size w w' :=
  (new_below w o).trans ((h.mono (by simp)).below (Nat.le_refl _))
theorem OwnAt.from {w : World} {B B' n : Nat} {A : Option Addr} {xs : List Int} (h : OwnAt w B A n xs) (hB : B' ≤ B) : OwnAt w B' A n xs := h.fewer hB
theorem OwnAt.grew {w w' : World} {B g n : Nat} {A : Option Addr} {xs : List Int} (h : OwnAt w B A n xs) (hg : Grew g w.heap.size w w') (hgB : g < B) : OwnAt w' B A n xs :=
  h.keep hg.size (fun ad e => hg.block _ (h.low ad e).2 (by have := (h.low ad e).1; omega))

def DrawSl (w : World) (K : Nat) (e : Ending) (w' : World) : Prop :=
  ∃ A n c xs, e = .returned (.slice A n c) ∧ OwnAt w' w.heap.size A n xs ∧ n ≤ K ∧ Below w.heap.size w w'
def DrawTwo (w : World) (e : Ending) (w' : World) : Prop :=
  ∃ A n c xs A' n' c' ys, e = .returned (.tuple #[.slice A n c, .slice A' n' c']) ∧ OwnAt w' w.heap.size A n xs ∧ OwnAt w' w.heap.size A' n' ys ∧ n ≤ 12 ∧ n' ≤ 12 ∧ Below w.heap.size w w'

theorem own_front {w : World} {B n : Nat} {A : Option Addr} {xs : List Int} (h : OwnAt w B A n xs) {k : Nat} (hk : k ≤ n) : OwnAt w B A k (xs.take k) :=
  ⟨by rw [List.length_take, h.len]; omega, fun h0 => by
    obtain ⟨g, m, f, e, hm, hr, hf⟩ := h.own (by omega)
    exact ⟨g, m, f, e, by omega, hr, fun i hi => by rw [hf i (by omega), List.getElem?_take_of_lt hi]⟩, h.low⟩

end Go.Proofs.Ythiegfbdmmpabab

/- What is proved here: what the laws' helpers return: the comparison, the number of some bytes, the sum; and the draw of a mask. No conditions beside the slices' lengths. -/
namespace Go.Proofs.Ythiegfbdmmpabab
open Go.RowKit

set_option maxHeartbeats 400000 in
theorem sameInts_any (A A' : Option Addr) (n n' c c' B : Nat) (xs ys : List Int) (w : World) (h : IntsAt w B A n xs) (h' : IntsAt w B A' n' ys) (hn : n ≤ 1048576) (hn' : n' ≤ 1048576) :
    Calls Try.prog 13 #[.slice A n c, .slice A' n' c'] w fun e w' => e = .returned (.bool (eqB xs ys)) ∧ ∃ m, w' = w.drewN m := by
  have hl' := Lib.hid h.1
  have hr := Lib.hid h; clear h
  have hl2' := Lib.hid h'.1
  have hr2 := Lib.hid h'; clear h'
  by_cases he : n = n'
  · subst he
    have hne : ((n : Int) != (n : Int)) = false := by simp
    go_enter Try.func13, Try.ntmps13
    go_wp2
    go_loopw [13] (fun i wr => ∃ k : Nat, k ≤ n ∧ i = .int .i64 k ∧ Hid (∀ j, j < k → xs[j]?.getD 0 = ys[j]?.getD 0) ∧ ∃ m, wr = w.drewN m) (fun i _ => n - (intOf i).toNat)
    case atStart => exact ⟨0, Nat.zero_le _, rfl, Lib.hid (fun j hj => absurd hj (Nat.not_lt_zero _)), 0, rfl⟩
    case round =>
      obtain ⟨k, hk, rfl, hall, m, rfl⟩ := hrel
      by_cases hlt : k < n
      · obtain ⟨b, off, rfl, _, hc⟩ := hr.out.2 k hlt
        obtain ⟨b', off', rfl, _, hc'⟩ := hr2.out.2 k hlt
        cases hx : (xs[k]?.getD 0 != ys[k]?.getD 0)
        · go_wp2
          go_quiet (fail)
          go_wp2
          go_roundw
          case rel =>
            refine ⟨k + 1, by omega, by go_num, Lib.hid (fun j hj => ?_), _, rfl⟩
            by_cases e : j = k
            · subst e; simpa using hx
            · exact hall.out j (by omega)
          case measure => simp [intOf]; omega
        · go_wp2
          go_quiet (fail)
          go_wp2
          go_ret
          exact ⟨ret_bool (eqB_no (k := k) (by simpa using hx)).symm, _, World.drewN_drewN _ _ _⟩
      · go_wp2
        go_ret
        exact ⟨ret_bool (eqB_yes (by rw [hl'.out, hl2'.out]) (fun j hj => hall.out j (by rw [hl'.out] at hj; omega))).symm, _, rfl⟩
  · have hne : ((n : Int) != (n' : Int)) = true := by simp; omega
    have hq := Lib.hid (eqB_len (xs := xs) (ys := ys) (by rw [hl'.out, hl2'.out]; exact he))
    go_enter Try.func13, Try.ntmps13
    go_wp2
    go_ret
    exact ⟨ret_bool hq.out.symm, 0, rfl⟩

set_option maxHeartbeats 400000 in
theorem lawSum_any (A : Option Addr) (n c B : Nat) (xs : List Int) (w : World) (h : IntsAt w B A n xs) (hn : n ≤ 1048576) (hb : Bds xs) :
    Calls Try.prog 17 #[.slice A n c] w fun e w' => e = .returned (.int .i64 (sumL xs)) ∧ w = w' := by
  have hl' := Lib.hid h.1
  have hr := Lib.hid h; clear h
  have hb' := Lib.hid hb; clear hb
  go_enter Try.func17, Try.ntmps17
  go_wp2
  go_loop [3, 8] (fun s i => ∃ k : Nat, k ≤ n ∧ i = .int .i64 k ∧ s = .int .i64 (sumL (xs.take k))) (fun _ i => n - (intOf i).toNat)
  case atStart => exact ⟨0, Nat.zero_le _, rfl, rfl⟩
  case round =>
    obtain ⟨k, hk, rfl, rfl⟩ := hrel
    by_cases hlt : k < n
    · obtain ⟨b, off, rfl, _, hc⟩ := hr.out.2 k hlt
      have hs := Lib.hid (sumL_step (s := xs) (k := k) (by rw [hl'.out]; exact hlt))
      obtain ⟨g1, g2⟩ := sumL_bd hb'.out k (by rw [hl'.out]; exact hk)
      obtain ⟨g3, g4⟩ := hb'.out k (by rw [hl'.out]; exact hlt)
      go_wp2
      go_round
      case rel => exact ⟨k + 1, by omega, by go_num, by rw [hs.out]⟩
      case measure => simp [intOf]; omega
    · go_wp2
      go_ret
      exact ⟨ret_int (sumL_end (by rw [hl'.out]; omega)), rfl⟩

def NumPost (w : World) (e : Ending) (w' : World) : Prop := ∃ x : Int, e = .returned (.int .i64 x) ∧ 0 ≤ x ∧ x < 1000003 ∧ w = w'
set_option maxHeartbeats 400000 in
theorem numberOf_any (A : Option Addr) (n c : Nat) (w : World) (h : BytesIn w A n) (hn : n ≤ 1048576) :
    Calls Try.prog 21 #[.slice A n c] w (NumPost w) := by
  have hr := Lib.hid h; clear h
  go_enter Try.func21, Try.ntmps21
  go_wp2
  go_loop [3, 8] (fun s i => ∃ (k : Nat) (x : Int), k ≤ n ∧ i = .int .i64 k ∧ s = .int .i64 x ∧ 0 ≤ x ∧ x < 1000003) (fun _ i => n - (intOf i).toNat)
  case atStart => exact ⟨0, 0, Nat.zero_le _, rfl, rfl, by decide, by decide⟩
  case round =>
    obtain ⟨k, x, hk, rfl, rfl, hx0, hx1⟩ := hrel
    by_cases hlt : k < n
    · obtain ⟨b, off, y, rfl, _, _, hy0, hy1, hc⟩ := hr.out k hlt
      have m1 := Int.emod_nonneg (31 * x + y) (show (1000003 : Int) ≠ 0 by decide)
      have m2 := Int.emod_lt_of_pos (31 * x + y) (show (0 : Int) < 1000003 by decide)
      go_wp2
      go_round
      case rel => exact ⟨k + 1, _, by omega, by go_num, rfl, m1, m2⟩
      case measure => simp [intOf]; omega
    · go_wp2
      go_ret
      exact ⟨x, rfl, hx0, hx1, rfl⟩

theorem seven_ints (w : World) (a b c d e f g : Int) (t : TypeId) : IntsAt (w.alloc (.cells #[.int .i64 a, .int .i64 b, .int .i64 c, .int .i64 d, .int .i64 e, .int .i64 f, .int .i64 g] t)) (w.heap.size + 1) (some ⟨w.heap.size, 0, none⟩) 7 [a, b, c, d, e, f, g] :=
  ⟨rfl, fun k hk => ⟨w.heap.size, 0, rfl, Nat.lt_succ_self _, by
    have : k = 0 ∨ k = 1 ∨ k = 2 ∨ k = 3 ∨ k = 4 ∨ k = 5 ∨ k = 6 := by omega
    rcases this with rfl | rfl | rfl | rfl | rfl | rfl | rfl <;> simp⟩⟩
def DrawInt (w : World) (e : Ending) (w' : World) : Prop := ∃ x : Int, e = .returned (.int .i64 x) ∧ Below w.heap.size w w'
end Go.Proofs.Ythiegfbdmmpabab
