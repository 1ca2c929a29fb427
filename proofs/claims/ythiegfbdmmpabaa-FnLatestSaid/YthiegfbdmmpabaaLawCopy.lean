/- What is proved here: the law's copying, comparing and marking of slices of blocks and of integers, each with the number of the new block as a letter. No conditions but lengths. -/
import Derived.Test.YthiegfbdmmpabaaBlocks
import Derived.Test.YthiegfbdmmpabaaOwn
namespace Go.Proofs.Ythiegfbdmmpabaa
open Go.RowKit

theorem toBlk_g (A : Option Addr) (n c : Nat) (ts : List Blk) (w : World) (h : BlksAt w w.heap.size A n ts) (hn : n ≤ 1048576) :
    Calls Try.prog 17 #[.slice A n c] w fun e w' => ∃ g, e = .returned (.slice (some ⟨g, 0, none⟩) n n) ∧ w'.rowIs g 97 (n * 2) (cellsOf ts) ∧ Below w.heap.size w w' ∧ w.heap.size ≤ g ∧ g < w'.heap.size :=
  (toBlockS_any A n c ts w h hn).mono fun _ _ ⟨he, hr, hb, hs⟩ => ⟨_, he, hr, hb, Nat.le_refl _, hs⟩
theorem toInt_g (A : Option Addr) (n c : Nat) (xs : List Int) (w : World) (h : IntsAt w w.heap.size A n xs) (hn : n ≤ 1048576) :
    Calls Try.prog 18 #[.slice A n c] w fun e w' => ∃ g, e = .returned (.slice (some ⟨g, 0, none⟩) n n) ∧ w'.rowIs g 3 n (fun i => .int .i64 (xs[i]?.getD 0)) ∧ Below w.heap.size w w' ∧ w.heap.size ≤ g ∧ g < w'.heap.size :=
  (toIntS_any A n c xs w h hn).mono fun _ _ ⟨he, hr, hb, hs⟩ => ⟨_, he, hr, hb, Nat.le_refl _, hs⟩
theorem IntsAt.up' {w w' : World} {A : Option Addr} {n : Nat} {xs : List Int} (h : IntsAt w w.heap.size A n xs) (hb : Below w.heap.size w w') : IntsAt w' w'.heap.size A n xs := (h.below hb).more hb.size
theorem row_ints {w : World} {g n : Nat} {xs : List Int} (hl : xs.length = n) (h : w.rowIs g 3 n (fun i => .int .i64 (xs[i]?.getD 0))) : IntsAt w w.heap.size (some ⟨g, 0, none⟩) n xs := (OwnAt.of_row h.lt hl h).ints
theorem row_blks' {w : World} {g n : Nat} {ts : List Blk} (hl : ts.length = n) (h : w.rowIs g 97 (n * 2) (cellsOf ts)) : BlksAt w w.heap.size (some ⟨g, 0, none⟩) n ts := BlksAt.of_row h.lt hl h
theorem eqInt_b (A A' : Option Addr) (n n' c c' : Nat) (xs : List Int) (w : World) (h : IntsAt w w.heap.size A n xs) (h' : IntsAt w w.heap.size A' n' xs) (hn : n ≤ 1048576) (hn' : n' ≤ 1048576) :
    Calls Try.prog 22 #[.slice A n c, .slice A' n' c'] w fun e w' => e = .returned (.bool true) ∧ Below w.heap.size w w' :=
  (eqIntS_any A A' n n' c c' w.heap.size xs xs w h h' hn hn').mono fun _ _ ⟨he, d, hw⟩ => ⟨by rw [he, eqB_yes rfl (fun _ _ => rfl)], by rw [hw]; exact below_drewN (Below.refl _ _) d⟩
theorem eqBlk_b (A A' : Option Addr) (n n' c c' : Nat) (ts : List Blk) (w : World) (h : BlksAt w w.heap.size A n ts) (h' : BlksAt w w.heap.size A' n' ts) (hn : n ≤ 1048576) (hn' : n' ≤ 1048576) :
    Calls Try.prog 21 #[.slice A n c, .slice A' n' c'] w fun e w' => e = .returned (.bool true) ∧ Below w.heap.size w w' :=
  (eqBlockS_any A A' n n' c c' ts ts w h h' hn hn').mono fun _ _ ⟨he, hb⟩ => ⟨by rw [he]; unfold eqT; simp, hb⟩
theorem held_b (A : Option Addr) (n c : Nat) (k : Int) (w : World) (h : IntsAt w w.heap.size A n (marks k n)) (hn : n ≤ 1048576) (hk0 : 0 ≤ k) (hk1 : k ≤ 4294967296) :
    Calls Try.prog 29 #[.slice A n c, .int .i64 k] w fun e w' => e = .returned (.int .i64 (k + n)) ∧ Below w.heap.size w w' :=
  (held_any A n c w.heap.size k w h hn hk0 hk1).mono fun _ _ ⟨he, hw⟩ => ⟨he, by rw [← hw]; exact Below.refl _ _⟩
theorem markInt_b (g n c : Nat) (xs : List Int) (k : Int) (w : World) (hl : xs.length = n) (h : w.rowIs g 3 n (fun i => .int .i64 (xs[i]?.getD 0))) (hn : n ≤ 1048576) (hk0 : 0 ≤ k) (hk1 : k ≤ 4294967296) :
    Calls Try.prog 27 #[.slice (some ⟨g, 0, none⟩) n c, .int .i64 k] w fun e w' => e = .returned (.int .i64 (k + n)) ∧ Only (some ⟨g, 0, none⟩) w w' :=
  (mark_any _ n c g xs k w (OwnAt.of_row h.lt hl h) hn hk0 hk1).mono fun _ _ ⟨he, _, ho⟩ => ⟨he, ho⟩
theorem markRes_b (A : Option Addr) (n c B : Nat) (xs : List Int) (k : Int) (w : World) (h : OwnAt w B A n xs) (hn : n ≤ 1048576) (hk0 : 0 ≤ k) (hk1 : k ≤ 4294967296) :
    Calls Try.prog 27 #[.slice A n c, .int .i64 k] w fun e w' => e = .returned (.int .i64 (k + n)) ∧ OwnAt w' B A n (marks k n) ∧ Only A w w' :=
  mark_any A n c B xs k w h hn hk0 hk1
theorem rowIs_only {w w' : World} {b : Nat} {t : TypeId} {n : Nat} {f : Nat → Value} {A : Option Addr} (h : w.rowIs b t n f) (ho : Only A w w') (hd : ∀ ad, A = some ad → b ≠ ad.block) : w'.rowIs b t n f := h.of_block (ho.block b hd)

set_option maxHeartbeats 400000 in
theorem markBlk_b (g n c : Nat) (f : Nat → Value) (k : Int) (w : World) (h : w.rowIs g 97 (n * 2) f) (hn : n ≤ 1048576) (hk0 : 0 ≤ k) (hk1 : k ≤ 4294967296) :
    Calls Try.prog 26 #[.slice (some ⟨g, 0, none⟩) n c, .int .i64 k] w fun e w' => e = .returned (.int .i64 (k + n * 2)) ∧ Only (some ⟨g, 0, none⟩) w w' := by
  have hr' := Lib.hid h; clear h
  go_enter Try.func26, Try.ntmps26
  go_wp2_with fail
  go_loopw [1, 5] (fun a i wr => ∃ j : Nat, j ≤ n ∧ i = .int .i64 j ∧ a = .int .i64 (k + j * 2) ∧ (∃ f', wr.rowIs g 97 (n * 2) f') ∧ Only (some ⟨g, 0, none⟩) w wr) (fun _ i _ => n - (intOf i).toNat)
  case atStart => exact ⟨0, Nat.zero_le _, rfl, by simp, ⟨f, hr'.out⟩, Only.refl _ _⟩
  case round =>
    obtain ⟨j, hj, rfl, rfl, ⟨f', hrow⟩, hon⟩ := hrel
    have ho := Lib.hid hon; clear hon
    by_cases hlt : j < n
    · have c1 := hrow.cell (i := j * 2) (by omega)
      have c2 := hrow.cell (i := j * 2 + 1) (by omega)
      have f1 := hrow.frozen (j * 2)
      have f2 := hrow.frozen (j * 2 + 1)
      have hrow' := Lib.hid hrow; clear hrow
      go_wp2_with fail
      go_roundw
      case rel => exact ⟨j + 1, by omega, by go_num, by go_num, ⟨_, (hrow'.out.set (j * 2) _).set (j * 2 + 1) _⟩, (ho.out.set _).set _⟩
      case measure => simp [intOf]; omega
    · clear hrow
      go_wp2_with fail
      go_ret
      exact ⟨ret_int (by omega), ho.out⟩

theorem szBlk_g (A : Option Addr) (n c : Nat) (L : Int) (w : World) (hn : n ≤ 140737488351232) (hL0 : 0 ≤ L) (hL1 : L ≤ 1048576) :
    Calls Try.prog 14 #[.slice A n c, .int .i64 L] w fun e w' => e = .returned (.int .i64 (if (n : Int) ≤ L then L - n else -1)) ∧ w = w' := by
  by_cases h : (n : Int) ≤ L
  · have hr := Lib.hid (show (if (n : Int) ≤ L then L - n else -1) = L - n from if_pos h)
    have h' : ¬ (L - (n : Int) < 0) := by omega
    go_enter Try.func14, Try.ntmps14
    go_wp2
    go_ret
    first | exact ⟨rfl, rfl⟩ | exact ⟨ret_int hr.out.symm, rfl⟩
  · have hr := Lib.hid (show (if (n : Int) ≤ L then L - n else -1) = -1 from if_neg h)
    have h' : L - (n : Int) < 0 := by omega
    go_enter Try.func14, Try.ntmps14
    go_wp2
    go_ret
    first | exact ⟨rfl, rfl⟩ | exact ⟨ret_int hr.out.symm, rfl⟩
end Go.Proofs.Ythiegfbdmmpabaa
