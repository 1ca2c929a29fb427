/- What is proved here: what HeadAt returns, in the program and in the model. No conditions. -/
import Derived.Test.YtoppgckmcclfpaaWays
namespace Go.Proofs.Ytoppgckmcclfpaa
open Go.RowKit

def headF (ts : List Blk) (s : Int) : Nat → Nat → Nat
  | 0, k => k
  | f + 1, k => if sloZ ts k ≤ s then k else headF ts s f (parN ts k)
def head (ts : List Blk) (s : Int) (k : Nat) : Nat := headF ts s k k
theorem headF_enough {ts : List Blk} (h : Tree ts) {s : Int} (hs : 0 ≤ s) : ∀ f g k, k < ts.length → k ≤ f → k ≤ g → headF ts s f k = headF ts s g k := by
  intro f
  induction f with
  | zero =>
    intro g k _ hf _
    have : k = 0 := by omega
    subst this
    cases g with
    | zero => rfl
    | succ g => simp only [headF]; rw [if_pos (by rw [h.root_slot]; exact hs)]
  | succ f ih =>
    intro g k hk hf hg
    by_cases h0 : k = 0
    · subst h0
      have e := h.root_slot
      cases g with
      | zero => simp only [headF]; rw [if_pos (by omega)]
      | succ g => simp only [headF]; rw [if_pos (by omega), if_pos (by omega)]
    · obtain ⟨_, hp⟩ := h.up hk h0
      obtain ⟨g, rfl⟩ : ∃ g', g = g' + 1 := ⟨g - 1, by omega⟩
      simp only [headF]
      rw [ih g (parN ts k) (by omega) (by omega) (by omega)]
theorem head_here {ts : List Blk} {s : Int} {k : Nat} (hk : sloZ ts k ≤ s) : head ts s k = k := by
  unfold head
  cases k with
  | zero => rfl
  | succ k => simp only [headF]; rw [if_pos hk]
theorem head_up {ts : List Blk} (h : Tree ts) {s : Int} (hs : 0 ≤ s) {k : Nat} (hk : k < ts.length) (hl : s < sloZ ts k) : k ≠ 0 ∧ head ts s k = head ts s (parN ts k) := by
  have h0 : k ≠ 0 := fun e => by rw [e, h.root_slot] at hl; omega
  obtain ⟨_, hp⟩ := h.up hk h0
  refine ⟨h0, ?_⟩
  obtain ⟨m, rfl⟩ : ∃ m, k = m + 1 := ⟨k - 1, by omega⟩
  show headF ts s (m + 1) (m + 1) = _
  simp only [headF]
  rw [if_neg (by omega), headF_enough h hs m (parN ts (m + 1)) (parN ts (m + 1)) (by omega) (by omega) (Nat.le_refl _)]
  rfl
def headOk (ts : List Blk) (b s : Int) : Bool := okK ts b && decide (0 ≤ s)
def headR (ts : List Blk) (b s : Int) : Int := if headOk ts b s then (head ts s b.toNat : Nat) else 0

theorem implHead_any (A : Option Addr) (n c : Nat) (ts : List Blk) (a b : Int) (w : World) (h : BlksAt w w.heap.size A n ts) (hn : n ≤ 1048576) :
    Calls Try.prog 36 #[.slice A n c, .int .i64 a, .int .i64 b] w (UpPost w (.tuple #[.int .i64 (headR ts a b), .bool (headOk ts a b)])) := by
  have hh := Lib.hid h; clear h
  cases hk : okK ts a
  · have hr := Lib.hid (show headOk ts a b = false by unfold headOk; rw [hk]; rfl)
    have hr2 := Lib.hid (show headR ts a b = 0 by unfold headR; rw [hr.out]; rfl)
    go_enter Try.func36, Try.ntmps36
    go_wp2_with (go_at_call 78; refine (isBlock_ok _ _ _ ts _ _ hh.out hn).mono ?_; rintro e w1 ⟨rfl, b1⟩; rw [hk])
    go_ret2
    exact ⟨ret_two hr2.out.symm hr.out.symm, b1⟩
  · by_cases hb : b < 0
    · have hr := Lib.hid (show headOk ts a b = false by unfold headOk; rw [hk, decide_eq_false (by omega)]; rfl)
      have hr2 := Lib.hid (show headR ts a b = 0 by unfold headR; rw [hr.out]; rfl)
      go_enter Try.func36, Try.ntmps36
      go_wp2_with (go_at_call 78; refine (isBlock_ok _ _ _ ts _ _ hh.out hn).mono ?_; rintro e w1 ⟨rfl, b1⟩; rw [hk])
      go_ret2
      exact ⟨ret_two hr2.out.symm hr.out.symm, b1⟩
    · obtain ⟨ht, k0, rfl, hkl⟩ := okK_iff.1 hk
      have hr := Lib.hid (show headOk ts k0 b = true by unfold headOk; rw [hk, decide_eq_true (by omega)]; rfl)
      have hr2 := Lib.hid (show headR ts k0 b = head ts b k0 by unfold headR; rw [hr.out]; rfl)
      have hln := Lib.hid hh.out.1
      have hkn : k0 < n := by rw [← hln.out]; exact hkl
      go_enter Try.func36, Try.ntmps36
      go_wp2_with (go_at_call 78; refine (isBlock_ok _ _ _ ts _ _ hh.out hn).mono ?_; rintro e w1 ⟨rfl, b1⟩; rw [hk]; have u1 := Lib.hid b1; have h1 := Lib.hid (hh.out.up b1); clear b1)
      refine (stepsUp_any _ _ _ _ _).mono ?_
      rintro e w2 ⟨g, t, rfl, hs⟩
      unfold stepV
      go_wp2_with fail
      refine (step_any _ _ _ _ _ ts k0 w1 w2 h1.out hn hs hkn).mono ?_
      clear hs
      rintro e w3 ⟨rfl, hs⟩
      have hs' := Lib.hid hs; clear hs
      go_wp2_with fail
      go_loopw [9] (fun i wr => ∃ k : Nat, i = .int .i64 k ∧ k < n ∧ Hid (head ts b k = head ts b k0) ∧ Hid (Steps w1 wr g t A n c (parZ ts k))) (fun i _ => (intOf i).toNat)
      case atStart => exact ⟨k0, rfl, hkn, Lib.hid rfl, hs'⟩
      case round =>
        obtain ⟨k, rfl, hk1, hd, hs⟩ := hrel
        obtain ⟨bb, off, e, hbb, hcs⟩ := h1.out.at (by omega)
        have d1 := (hs.out.bel.cell (p := ⟨bb, off + k * 2 + 1, none⟩) hbb).trans (hcs k hk1).2
        clear hcs
        subst e
        by_cases hle : b < (ts[k]?.getD (0, 0)).2
        · obtain ⟨h0, hup⟩ := head_up ht (s := b) (by omega) (k := k) (by rw [hln.out]; exact hk1) hle
          have hu := ht.up (k := k) (by rw [hln.out]; omega) h0
          have hd2 := Lib.hid (hup.symm.trans hd.out)
          have hs2 := Lib.hid (show Steps w1 wr g t (some ⟨bb, off, none⟩) n c (parN ts k : Nat) by rw [← hu.1]; exact hs.out)
          have hu2 := hu.2
          clear hu h0 hup
          go_wp2_with fail
          refine (step_any _ _ _ _ _ ts (parN ts k) w1 wr h1.out hn hs2.out (by omega)).mono ?_
          rintro e w4 ⟨rfl, hs3⟩
          have hs4 := Lib.hid hs3; clear hs3
          go_wp2_with fail
          go_roundw
          case rel => exact ⟨parN ts k, rfl, by omega, hd2, hs4⟩
          case measure => simp [intOf]; omega
        · have hhere := Lib.hid (head_here (ts := ts) (s := b) (k := k) (by unfold sloZ; omega))
          go_wp2_with fail
          go_ret2
          exact ⟨ret_two (by rw [hr2.out, ← hd.out, hhere.out]) hr.out.symm, u1.out.trans (hs.out.bel.mono u1.out.size)⟩

theorem specHead_any (A : Option Addr) (n c : Nat) (ts : List Blk) (a b : Int) (w : World) (h : BlksAt w w.heap.size A n ts) (hn : n ≤ 1048576) :
    Calls Try.prog 37 #[.slice A n c, .int .i64 a, .int .i64 b] w (UpPost w (.tuple #[.int .i64 (headR ts a b), .bool (headOk ts a b)])) := by
  have hh := Lib.hid h; clear h
  cases hk : okK ts a
  · have hr := Lib.hid (show headOk ts a b = false by unfold headOk; rw [hk]; rfl)
    have hr2 := Lib.hid (show headR ts a b = 0 by unfold headR; rw [hr.out]; rfl)
    go_enter Try.func37, Try.ntmps37
    go_wp2_with (go_at_call 83; refine (there_ok _ _ _ ts _ _ hh.out hn).mono ?_; rintro e w1 ⟨rfl, b1⟩; rw [hk])
    go_ret2
    exact ⟨ret_two hr2.out.symm hr.out.symm, b1⟩
  · by_cases hb : b < 0
    · have hr := Lib.hid (show headOk ts a b = false by unfold headOk; rw [hk, decide_eq_false (by omega)]; rfl)
      have hr2 := Lib.hid (show headR ts a b = 0 by unfold headR; rw [hr.out]; rfl)
      go_enter Try.func37, Try.ntmps37
      go_wp2_with (go_at_call 83; refine (there_ok _ _ _ ts _ _ hh.out hn).mono ?_; rintro e w1 ⟨rfl, b1⟩; rw [hk])
      go_ret2
      exact ⟨ret_two hr2.out.symm hr.out.symm, b1⟩
    · obtain ⟨ht, k0, rfl, hkl⟩ := okK_iff.1 hk
      have hr := Lib.hid (show headOk ts k0 b = true by unfold headOk; rw [hk, decide_eq_true (by omega)]; rfl)
      have hr2 := Lib.hid (show headR ts k0 b = head ts b k0 by unfold headR; rw [hr.out]; rfl)
      have hln := Lib.hid hh.out.1
      have hkn : k0 < n := by rw [← hln.out]; exact hkl
      go_enter Try.func37, Try.ntmps37
      go_wp2_with (go_at_call 83; refine (there_ok _ _ _ ts _ _ hh.out hn).mono ?_; rintro e w1 ⟨rfl, b1⟩; rw [hk]; have u1 := Lib.hid b1; have h1 := Lib.hid (hh.out.up b1); clear b1)
      go_loop [1] (fun i => ∃ k : Nat, i = .int .i64 k ∧ k < n ∧ Hid (head ts b k = head ts b k0)) (fun i => (intOf i).toNat)
      case atStart => exact ⟨k0, rfl, hkn, Lib.hid rfl⟩
      case round =>
        obtain ⟨k, rfl, hk1, hd⟩ := hrel
        obtain ⟨bb, off, e, hbb, hcs⟩ := h1.out.at (by omega)
        obtain ⟨d0, d1⟩ := hcs k hk1
        clear hcs
        subst e
        by_cases hle : b < (ts[k]?.getD (0, 0)).2
        · obtain ⟨h0, hup⟩ := head_up ht (s := b) (by omega) (k := k) (by rw [hln.out]; exact hk1) hle
          have hu := ht.up (k := k) (by rw [hln.out]; omega) h0
          have hd2 := Lib.hid (hup.symm.trans hd.out)
          rw [show (ts[k]?.getD (0, 0)).1 = (parN ts k : Int) from hu.1] at d0
          have hu2 := hu.2
          clear hu h0 hup
          go_wp2_with fail
          go_round
          case rel => exact ⟨parN ts k, rfl, by omega, hd2⟩
          case measure => simp [intOf]; omega
        · have hhere := Lib.hid (head_here (ts := ts) (s := b) (k := k) (by unfold sloZ; omega))
          go_wp2_with fail
          go_ret2
          exact ⟨ret_two (by rw [hr2.out, ← hd.out, hhere.out]) hr.out.symm, u1.out⟩
end Go.Proofs.Ytoppgckmcclfpaa
