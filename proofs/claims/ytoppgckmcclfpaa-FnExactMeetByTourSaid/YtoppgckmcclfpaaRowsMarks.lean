/- What is proved here: what the law's marking of a slice of slices, and its look at the marks, do to it. No conditions. -/
import Derived.Test.YtoppgckmcclfpaaRowsWalks
namespace Go.Proofs.Ytoppgckmcclfpaa
open Go.RowKit

theorem markT_done {rows : List (List Int)} {k : Nat} : markT rows (k + 1) k = marks (1 + tot rows k) (rowG rows k).length := by
  unfold markT; rw [if_pos (by omega)]
theorem markT_other {rows : List (List Int)} {k j : Nat} (h : j ≠ k) : markT rows (k + 1) j = markT rows k j := by
  unfold markT
  by_cases e : j < k
  · rw [if_pos e, if_pos (by omega)]
  · rw [if_neg e, if_neg (by omega)]

def MarksPost (w : World) (B : Nat) (A : Option Addr) (n : Nat) (rows : List (List Int)) (e : Ending) (w' : World) : Prop :=
  e = .returned (.int .i64 (1 + (tot rows n : Nat))) ∧ RowsOwn w' B A n (markT rows n) ∧ Below B w w'

set_option maxHeartbeats 400000 in
theorem markRows_any (A : Option Addr) (n c B : Nat) (rows : List (List Int)) (w : World) (h : RowsOwn w B A n (rowG rows)) (hs : short rows) (hn : n ≤ 1000) :
    Calls Try.prog 72 #[.slice A n c, .int .i64 1] w (MarksPost w B A n rows) := by
  by_cases h0 : n = 0
  · have hfin := Lib.hid (show MarksPost w B A n rows (.returned (.int .i64 1)) w by
      subst h0
      exact ⟨rfl, ⟨fun h => absurd h (Nat.lt_irrefl _)⟩, Below.refl _ _⟩)
    have hlow : n ≤ 0 := by omega
    clear h h0
    go_enter Try.func72, Try.ntmps72
    go_wp2_with fail
    go_loop [1, 5] (fun a i => a = .int .i64 1 ∧ i = .int .i64 0) (fun _ _ => 0)
    case atStart => exact ⟨rfl, rfl⟩
    case round =>
      obtain ⟨rfl, rfl⟩ := hrel
      go_wp2_with fail
      go_ret
      exact hfin.out
  · obtain ⟨g, m, f, rfl, hB, hm, hrow, ad, ca, h1, h2⟩ := h.own (by omega)
    have hrow' := Lib.hid hrow; have h1' := Lib.hid h1; have h2' := Lib.hid h2
    have hs' := Lib.hid hs
    clear h hrow h1 h2 hs
    go_enter Try.func72, Try.ntmps72
    go_wp2_with fail
    go_loopw [1, 5] (fun a i wr => ∃ k : Nat, k ≤ n ∧ i = .int .i64 k ∧ a = .int .i64 (1 + (tot rows k : Nat)) ∧ Hid (wr.rowIs g 31 m f) ∧ Hid (∀ i, i < n → OwnAt wr B (ad i) (rowG rows i).length (markT rows k i)) ∧ Hid (Below B w wr)) (fun _ i _ => n - (intOf i).toNat)
    case atStart => exact ⟨0, Nat.zero_le _, rfl, by simp [tot], hrow', Lib.hid (fun i hi => by have := (h1'.out i hi).2.1; unfold markT; rw [if_neg (by omega)]; exact this), Lib.hid (Below.refl _ _)⟩
    case round =>
      obtain ⟨k, hk, rfl, rfl, hr, ho, hb⟩ := hrel
      by_cases hlt : k < n
      · have hc := hr.out.cell (i := k) (by omega)
        rw [(h1'.out k hlt).1] at hc
        have hL := hs'.out k
        have htk := tot_le hs'.out k
        have hst := Lib.hid (show tot rows (k + 1) = tot rows k + (rowG rows k).length from rfl)
        have hok := Lib.hid (ho.out k hlt)
        have hmk := Lib.hid (mark_any (ad k) (rowG rows k).length (ca k) B _ (1 + (tot rows k : Nat)) wr hok.out (by omega) (by omega) (by omega))
        go_wp2_with fail
        refine hmk.out.mono ?_
        rintro e w2 ⟨rfl, g2, only2⟩
        have hr2 := Lib.hid (hr.out.of_block (w' := w2) (only2.block g (fun x e => ((h1'.out k hlt).2.2 x e).symm)))
        have ho2 := Lib.hid (show ∀ i, i < n → OwnAt w2 B (ad i) (rowG rows i).length (markT rows (k + 1) i) from fun i hi => by
          by_cases e : i = k
          · subst e; rw [markT_done]; exact g2
          · rw [markT_other e]; exact (ho.out i hi).only only2 (fun x y ex ey => h2'.out i k hi hlt e x y ex ey))
        have hb2 := Lib.hid (hb.out.trans (only2.below (fun x e => (hok.out.low x e).1)))
        clear g2 only2 hc
        go_wp2_with fail
        go_roundw
        case rel => exact ⟨k + 1, by omega, by go_num, by rw [hst.out]; go_num, hr2, ho2, hb2⟩
        case measure => simp [intOf]; omega
      · have hkn : k = n := by omega
        subst hkn
        go_wp2_with fail
        go_ret
        exact ⟨rfl, ⟨fun _ => ⟨g, m, f, rfl, hB, hm, hr.out, ad, ca, fun i hi => ⟨by rw [markT_len]; exact (h1'.out i hi).1, by rw [markT_len]; exact ho.out i hi, (h1'.out i hi).2.2⟩, h2'.out⟩⟩, hb.out⟩

theorem heldRows_any (A : Option Addr) (n c B : Nat) (rows : List (List Int)) (w : World) (h : RowsOwn w B A n (markT rows n)) (hs : short rows) (hn : n ≤ 1000) :
    Calls Try.prog 73 #[.slice A n c, .int .i64 1] w fun e w' => e = .returned (.int .i64 (1 + (tot rows n : Nat))) ∧ w = w' := by
  have hh := Lib.hid h; have hs' := Lib.hid hs
  clear h hs
  go_enter Try.func73, Try.ntmps73
  go_wp2_with fail
  go_loop [1, 5] (fun a i => ∃ k : Nat, k ≤ n ∧ i = .int .i64 k ∧ a = .int .i64 (1 + (tot rows k : Nat))) (fun _ i => n - (intOf i).toNat)
  case atStart => exact ⟨0, Nat.zero_le _, rfl, by simp [tot]⟩
  case round =>
    obtain ⟨k, hk, rfl, rfl⟩ := hrel
    by_cases hlt : k < n
    · obtain ⟨g, m, f, rfl, hB, hm, hrow, ad, ca, h1, h2⟩ := hh.out.own (by omega)
      have hc := hrow.cell (i := k) (by omega)
      rw [(h1 k hlt).1, markT_len] at hc
      have hL := hs'.out k
      have htk := tot_le hs'.out k
      have hst := Lib.hid (show tot rows (k + 1) = tot rows k + (rowG rows k).length from rfl)
      have hom := (h1 k hlt).2.1
      rw [markT_len] at hom
      have hmk : markT rows n k = marks (1 + tot rows k) (rowG rows k).length := by unfold markT; rw [if_pos hlt]
      rw [hmk] at hom
      have hcon := Lib.hid (held_any (ad k) (rowG rows k).length (ca k) w.heap.size (1 + (tot rows k : Nat)) w hom.ints (by omega) (by omega) (by omega))
      have hnn : ¬ (1 + (tot rows k : Int) + ((rowG rows k).length : Int)) < 0 := by omega
      clear hrow h1 h2 hom hmk
      go_wp2_with fail
      refine hcon.out.mono ?_
      rintro e w2 ⟨rfl, rfl⟩
      go_wp2_with fail
      go_round
      case rel => exact ⟨k + 1, by omega, by go_num, by rw [hst.out]; go_num⟩
      case measure => simp [intOf]; omega
    · have hkn : k = n := by omega
      subst hkn
      go_wp2_with fail
      go_ret
      exact ⟨rfl, rfl⟩
end Go.Proofs.Ytoppgckmcclfpaa
