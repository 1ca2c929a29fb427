/- What is proved here: what the law's copy and count of a slice of slices do. No conditions. -/
import Derived.Test.YtoppgckmcclfpaaLeastWalks
namespace Go.Proofs.Ytoppgckmcclfpaa
open Go.RowKit

/-- A slice of slices whose rows each begin a block and have no spare cell. -/
def Tight (w : World) (A : Option Addr) (n : Nat) (rows : List (List Int)) : Prop := ∀ i, i < n → ∃ b off g, A = some ⟨b, off, none⟩ ∧ w.cell? ⟨b, off + i, none⟩ = some (.slice (some ⟨g, 0, none⟩) (rowG rows i).length (rowG rows i).length)

theorem infoRows : (Try.prog.info? 31).map (fun i => (i.zero, i.size, i.bytes)) = some (some (.slice none 0 0), 1, 24) := by kernel_rfl
theorem make_rows (n : Nat) (hn : n ≤ 1048576) (w : World) :
    (Instr.makeSlice 42 (.int .i64 (n : Int)) (.int .i64 (n : Int))).run Try.prog w = .ok (.slice (some ⟨w.heap.size, 0, none⟩) n n) (w.alloc (.cells (madeCells #[.slice none 0 0] n) 31)) := by
  obtain ⟨i, hi, hzz⟩ := Option.map_eq_some_iff.1 infoRows
  simp only [Prod.mk.injEq] at hzz
  obtain ⟨hz, hs, hb⟩ := hzz
  have hr := run_make w 42 31 i _ Try.underlying42 hi hz .i64 .i64 n n (by omega) (Int.le_refl _) (by rw [hb]; omega) (by omega)
  rw [hs, Int.toNat_natCast, Nat.mul_one] at hr
  exact hr
theorem row_rows (w : World) (n : Nat) : (w.alloc (.cells (madeCells #[.slice none 0 0] n) 31)).rowIs w.heap.size 31 n (fun _ => .slice none 0 0) :=
  ⟨_, Go.Deep.blk_alloc_new _ _, size_madeCells _ _, fun i hi => by simp [madeCells, hi, Nat.mod_one]⟩

set_option maxRecDepth 100000 in
set_option maxHeartbeats 800000 in
theorem toRows_any (A : Option Addr) (n c : Nat) (rows : List (List Int)) (w : World) (h : RowsAt w w.heap.size A n rows) (hs : fewRows rows) (hn : n ≤ 1048576) :
    Calls Try.prog 76 #[.slice A n c] w fun e w' => e = .returned (.slice (some ⟨w.heap.size, 0, none⟩) n n) ∧
      RowsAt w' w'.heap.size (some ⟨w.heap.size, 0, none⟩) n rows ∧ Tight w' (some ⟨w.heap.size, 0, none⟩) n rows ∧ Below w.heap.size w w' := by
  have hl := Lib.hid h.len
  have hr := Lib.hid h; clear h
  have hsA := Lib.hid hs; clear hs
  have hmk := fun W => make_rows n hn W
  go_enter Try.func76, Try.ntmps76
  go_wp2_with fail
  go_loopw [4] (fun i wr => ∃ (k : Nat) (gs : Nat → Nat), k ≤ n ∧ i = .int .i64 k ∧ wr.rowIs w.heap.size 31 n (fun j => if j < k then .slice (some ⟨gs j, 0, none⟩) (rowG rows j).length (rowG rows j).length else .slice none 0 0) ∧ Hid (∀ j, j < k → IntsAt wr wr.heap.size (some ⟨gs j, 0, none⟩) (rowG rows j).length (rowG rows j) ∧ w.heap.size < gs j) ∧ Hid (Below w.heap.size w wr) ∧ w.heap.size < wr.heap.size) (fun i _ => n - (intOf i).toNat)
  case atStart => exact ⟨0, fun _ => 0, Nat.zero_le _, rfl, (row_rows w n).congr (by intro i hi; simp), Lib.hid (fun j hj => absurd hj (Nat.not_lt_zero _)), Lib.hid ((Below.refl _ _).alloc (Nat.le_refl _) _), by simp⟩
  case round =>
    obtain ⟨k, gs, hk, rfl, hrow, hall, hbel, hsz⟩ := hrel
    by_cases hlt : k < n
    · obtain ⟨b, off, Ai, ci, rfl, hb, hc0, hi⟩ := hr.out.row k hlt
      have hc := (hbel.out.cell (p := ⟨b, off + k, none⟩) hb).trans hc0
      have hin := Lib.hid ((hi.below hbel.out).more hbel.out.size)
      have hcall := Lib.hid (toIntS_any Ai _ ci _ wr hin.out (hsA.out k))
      have hrow' := Lib.hid hrow
      obtain ⟨L, hL⟩ : ∃ L, Hid ((rowG rows k).length = L) := ⟨_, Lib.hid rfl⟩
      rw [hL.out] at hc hcall
      clear hc0 hi hrow
      go_wp2_with fail
      refine hcall.out.mono ?_
      rintro e w2 ⟨rfl, r2, b2, s2⟩
      have hrow2 := rowIs_below hrow'.out b2 hsz
      have c1 := hrow2.cell (i := k) hlt
      have f1 := hrow2.frozen k
      have hrow3 := Lib.hid hrow2
      have r2' := Lib.hid r2; have u2 := Lib.hid b2
      have s2' := b2.size
      rw [if_neg (Nat.lt_irrefl _)] at c1
      clear hrow2 r2 b2 hc
      go_wp2_with fail
      go_roundw
      case rel =>
        refine ⟨k + 1, fun j => if j = k then wr.heap.size else gs j, by omega, by go_num, (hrow3.out.set k _).congr ?_, Lib.hid (fun j hj => ?_), Lib.hid (((hbel.out.trans (u2.out.mono (Nat.le_of_lt hsz)))).setCell (by simp) _), by simp; omega⟩
        · intro j hj
          by_cases e : j = k
          · subst e; simp only [if_true]; rw [if_pos (by omega), hL.out]
          · simp only [e, if_false]
            by_cases e3 : j < k
            · rw [if_pos e3, if_pos (by omega)]
            · rw [if_neg e3, if_neg (by omega)]
        · by_cases e : j = k
          · subst e
            simp only [if_true]
            refine ⟨?_, hsz⟩
            have q : IntsAt w2 w2.heap.size (some ⟨wr.heap.size, 0, none⟩) L (rowG rows j) := IntsAt.of_row (Nat.le_refl _) s2 (by rw [hL.out]) r2'.out
            rw [hL.out]
            refine ⟨q.1, fun i hi => ?_⟩
            obtain ⟨b', o', e', hb', hc'⟩ := q.2 i hi
            cases e'
            exact ⟨_, _, rfl, by simpa using hb', (World.cell?_setCell_other _ _ _ _ (by intro h; simp only [Addr.mk.injEq] at h; omega)).trans hc'⟩
          · simp only [e, if_false]
            obtain ⟨q0, q1⟩ := hall.out j (by omega)
            have q := (q0.below u2.out).more s2'
            refine ⟨⟨q.1, fun i hi => ?_⟩, q1⟩
            obtain ⟨b', o', e', hb', hc'⟩ := q.2 i hi
            cases e'
            exact ⟨_, _, rfl, by simpa using hb', (World.cell?_setCell_other _ _ _ _ (by intro h; simp only [Addr.mk.injEq] at h; omega)).trans hc'⟩
      case measure => simp [intOf]; omega
    · have hkn : k = n := by omega
      have hrow' := Lib.hid hrow; clear hrow
      go_wp2_with fail
      go_ret
      have hcell : ∀ i, i < n → wr.cell? ⟨w.heap.size, 0 + i, none⟩ = some (.slice (some ⟨gs i, 0, none⟩) (rowG rows i).length (rowG rows i).length) := fun i hi => by
        rw [Nat.zero_add, hrow'.out.cell hi, if_pos (by omega)]
      exact ⟨rfl, ⟨hl.out, fun i hi => ⟨w.heap.size, 0, some ⟨gs i, 0, none⟩, _, rfl, hsz, hcell i hi, (hall.out i (by omega)).1⟩⟩, fun i hi => ⟨w.heap.size, 0, gs i, rfl, hcell i hi⟩, hbel.out⟩

def SzPost (w : World) (n : Nat) (rows : List (List Int)) (e : Ending) (w' : World) : Prop := ∃ r : Int, e = .returned (.int .i64 r) ∧ (0 ≤ r → n ≤ 1048576 ∧ ∀ i, i < n → (rowG rows i).length ≤ 1048576) ∧ w = w'
theorem szInts_any (A : Option Addr) (n c : Nat) (l : Int) (w : World) (hn : n ≤ 9223372036854775807) (h0 : 0 ≤ l) (h1 : l ≤ 1048576) :
    Calls Try.prog 119 #[.slice A n c, .int .i64 l] w fun e w' => e = .returned (.int .i64 (if (n : Int) ≤ l then l - n else -1)) ∧ w = w' := by
  by_cases h : (n : Int) ≤ l
  · rw [if_pos h]
    go_enter Try.func119, Try.ntmps119
    go_wp2
    go_ret
    exact ⟨rfl, rfl⟩
  · rw [if_neg h]
    have h' : l < (n : Int) := by omega
    go_enter Try.func119, Try.ntmps119
    go_wp2
    go_ret
    exact ⟨rfl, rfl⟩

set_option maxRecDepth 100000 in
set_option maxHeartbeats 800000 in
theorem szRows_any (A : Option Addr) (n c : Nat) (rows : List (List Int)) (w : World) (h : RowsAt w w.heap.size A n rows) (hn : n ≤ 9223372036854775807) (hrl : ∀ i, i < n → (rowG rows i).length ≤ 9223372036854775807) :
    Calls Try.prog 75 #[.slice A n c, .int .i64 1048576] w (SzPost w n rows) := by
  have hr := Lib.hid h; clear h
  have hrl' := Lib.hid hrl; clear hrl
  by_cases h : n ≤ 1048576
  · go_enter Try.func75, Try.ntmps75
    go_wp2_with fail
    go_loop [1, 5] (fun lv i => ∃ (k : Nat) (l : Int), k ≤ n ∧ i = .int .i64 k ∧ lv = .int .i64 l ∧ 0 ≤ l ∧ l ≤ 1048576 ∧ Hid (∀ j, j < k → (rowG rows j).length ≤ 1048576)) (fun _ i => n - (intOf i).toNat)
    case atStart => exact ⟨0, 1048576 - n, Nat.zero_le _, rfl, rfl, by omega, by omega, Lib.hid (fun j hj => absurd hj (Nat.not_lt_zero _))⟩
    case round =>
      obtain ⟨k, l, hk, rfl, rfl, hl0, hl1, hall⟩ := hrel
      by_cases hlt : k < n
      · obtain ⟨b, off, Ai, ci, rfl, _, hc, _⟩ := hr.out.row k hlt
        have hcall := Lib.hid (szInts_any Ai (rowG rows k).length ci l w (hrl'.out k hlt) hl0 hl1)
        obtain ⟨L, hL⟩ : ∃ L, Hid ((rowG rows k).length = L) := ⟨_, Lib.hid rfl⟩
        rw [hL.out] at hc hcall
        by_cases hLl : (L : Int) ≤ l
        · rw [if_pos hLl] at hcall
          have hd0 : 0 ≤ l - (L : Int) := by omega
          have hd1 : l - (L : Int) ≤ 1048576 := by omega
          have hnn : ¬ l - (L : Int) < 0 := by omega
          have hall2 := Lib.hid (show ∀ j, j < k + 1 → (rowG rows j).length ≤ 1048576 from fun j hj => by
            by_cases e : j = k
            · subst e; rw [hL.out]; omega
            · exact hall.out j (by omega))
          generalize l - (L : Int) = l2 at hcall hd0 hd1 hnn
          clear hLl
          go_wp2_with fail
          refine hcall.out.mono ?_
          rintro e w2 ⟨rfl, rfl⟩
          go_wp2_with fail
          go_round
          case rel => exact ⟨k + 1, l2, by omega, by go_num, rfl, hd0, hd1, hall2⟩
          case measure => simp [intOf]; omega
        · rw [if_neg hLl] at hcall
          go_wp2_with fail
          refine hcall.out.mono ?_
          rintro e w2 ⟨rfl, rfl⟩
          go_wp2_with fail
          go_ret
          exact ⟨-1, rfl, fun h => absurd h (by omega), rfl⟩
      · go_wp2_with fail
        go_ret
        exact ⟨l, rfl, fun _ => ⟨h, fun i hi => hall.out i (by omega)⟩, rfl⟩
  · have h' : (1048576 : Int) < (n : Int) := by omega
    go_enter Try.func75, Try.ntmps75
    go_wp2_with fail
    go_ret
    exact ⟨-1, rfl, fun h => absurd h (by omega), rfl⟩
end Go.Proofs.Ytoppgckmcclfpaa
