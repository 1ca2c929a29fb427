/- What is proved here: MeetOf of the program and of the model. No conditions. -/
import Derived.Test.YthiegfbdmmpababMeet
namespace Go.Proofs.Ythiegfbdmmpabab
open Go.RowKit

theorem l3Meet_any (A : Option Addr) (n c : Nat) (ts : List Blk) (a b : Nat) (w : World) (h : BlksAt w w.heap.size A n ts) (hn : n ≤ 1048576) (ht : Tree ts) (ha : a < ts.length) (hb : b < ts.length) :
    Calls Try.prog 119 #[.slice A n c, .int .i64 a, .int .i64 b] w (UpPost w (.int .i64 (meet ts a b : Nat))) := by
  have hl := Lib.hid h.1
  have hh := Lib.hid h; clear h
  go_enter Try.func119, Try.ntmps119
  go_wp2_with fail
  go_loopw [1] (fun i wr => ∃ x : Nat, i = .int .i64 x ∧ x < ts.length ∧ Hid (meet ts x b = meet ts a b) ∧ Below w.heap.size w wr) (fun i _ => (intOf i).toNat)
  case atStart => exact ⟨a, rfl, ha, Lib.hid rfl, Below.refl _ _⟩
  case round =>
    obtain ⟨x, rfl, hx, hm, hbel⟩ := hrel
    have h1 := Lib.hid (hh.out.up hbel)
    have u1 := Lib.hid hbel; clear hbel
    cases hab : abv ts x b
    · obtain ⟨h0, hup⟩ := meet_up ht hx hb hab
      have hu := ht.up hx h0
      have hm2 := Lib.hid (hup.symm.trans hm.out)
      have hu2 := hu.2
      go_wp2_with fail
      refine (l3Above_any _ _ _ ts x b _ h1.out hn ht hb).mono ?_
      rintro e w2 ⟨rfl, b2⟩
      rw [hab]
      have u2 := Lib.hid (u1.out.trans (b2.mono u1.out.size))
      have h2 := h1.out.up b2
      obtain ⟨bb, off, e, hbb, hcs⟩ := h2.at (by rw [← hl.out]; omega)
      have d0 := (hcs x (by rw [← hl.out]; exact hx)).1
      rw [show (ts[x]?.getD (0, 0)).1 = (parN ts x : Int) from hu.1] at d0
      have hxn : x < n := by rw [← hl.out]; exact hx
      subst e
      clear b2 h2 hcs hu h0 hup
      go_wp2_with fail
      go_roundw
      case rel => exact ⟨parN ts x, rfl, by omega, hm2, u2.out⟩
      case measure => simp [intOf]; omega
    · have hhere := Lib.hid (meet_here hab)
      go_wp2_with fail
      refine (l3Above_any _ _ _ ts x b _ h1.out hn ht hb).mono ?_
      rintro e w2 ⟨rfl, b2⟩
      rw [hab]
      have u2 := Lib.hid (u1.out.trans (b2.mono u1.out.size)); clear b2
      go_wp2_with fail
      go_ret
      exact ⟨ret_int (by rw [← hm.out, hhere.out]), u2.out⟩

def meetR (ts : List Blk) (a b : Int) : Int := if abvOk ts a b then (meet ts a.toNat b.toNat : Nat) else 0

set_option maxHeartbeats 400000 in
theorem specMeet_any (A : Option Addr) (n c : Nat) (ts : List Blk) (a b : Int) (w : World) (h : BlksAt w w.heap.size A n ts) (hn : n ≤ 1048576) :
    Calls Try.prog 57 #[.slice A n c, .int .i64 a, .int .i64 b] w (UpPost w (.tuple #[.int .i64 (meetR ts a b), .bool (abvOk ts a b)])) := by
  have hh := Lib.hid h; clear h
  cases hk : okK ts a
  · have hr := Lib.hid (show abvOk ts a b = false by unfold abvOk; rw [hk]; rfl)
    have hr2 := Lib.hid (show meetR ts a b = 0 by unfold meetR; rw [hr.out]; rfl)
    go_enter Try.func57, Try.ntmps57
    go_wp2_with (go_at_call 118; refine (there_ok _ _ _ ts _ _ hh.out hn).mono ?_; rintro e w1 ⟨rfl, b1⟩; rw [hk])
    go_ret2
    exact ⟨ret_two hr2.out.symm hr.out.symm, b1⟩
  · cases hk2 : okK ts b
    · have hr := Lib.hid (show abvOk ts a b = false by unfold abvOk; rw [hk, hk2]; rfl)
      have hr2 := Lib.hid (show meetR ts a b = 0 by unfold meetR; rw [hr.out]; rfl)
      go_enter Try.func57, Try.ntmps57
      go_wp2_with fail
      refine (there_ok _ _ _ ts _ _ hh.out hn).mono ?_
      rintro e w1 ⟨rfl, b1⟩
      rw [hk]
      have u1 := Lib.hid b1; have h1 := Lib.hid (hh.out.up b1); clear b1
      go_wp2_with fail
      refine (there_ok _ _ _ ts _ _ h1.out hn).mono ?_
      rintro e w2 ⟨rfl, b2⟩
      rw [hk2]
      have u2 := Lib.hid (u1.out.trans (b2.mono u1.out.size)); clear b2
      go_wp2_with fail
      go_ret2
      exact ⟨ret_two hr2.out.symm hr.out.symm, u2.out⟩
    · obtain ⟨ht, x, rfl, hxl⟩ := okK_iff.1 hk
      obtain ⟨_, y, rfl, hyl⟩ := okK_iff.1 hk2
      have hr := Lib.hid (show abvOk ts x y = true by unfold abvOk; rw [hk, hk2]; rfl)
      have hr2 := Lib.hid (show meetR ts x y = meet ts x y by unfold meetR; rw [hr.out]; rfl)
      go_enter Try.func57, Try.ntmps57
      go_wp2_with fail
      refine (there_ok _ _ _ ts _ _ hh.out hn).mono ?_
      rintro e w1 ⟨rfl, b1⟩
      rw [hk]
      have u1 := Lib.hid b1; have h1 := Lib.hid (hh.out.up b1); clear b1
      go_wp2_with fail
      refine (there_ok _ _ _ ts _ _ h1.out hn).mono ?_
      rintro e w2 ⟨rfl, b2⟩
      rw [hk2]
      have u2 := Lib.hid (u1.out.trans (b2.mono u1.out.size)); have h2 := Lib.hid (h1.out.up b2); clear b2
      go_wp2_with fail
      refine (l3Meet_any _ _ _ ts x y _ h2.out hn ht hxl hyl).mono ?_
      rintro e w3 ⟨rfl, b3⟩
      have u3 := Lib.hid (u2.out.trans (b3.mono u2.out.size)); clear b3
      go_wp2_with fail
      go_ret2
      exact ⟨ret_two hr2.out.symm hr.out.symm, u3.out⟩

theorem five {i : Nat} (h : i < 5) : i = 0 ∨ i = 1 ∨ i = 2 ∨ i = 3 ∨ i = 4 := by omega
def SplitPost (w : World) (ts : List Blk) (a b : Nat) (e : Ending) (w' : World) : Prop := ∃ k : Nat, e = .returned (.int .i64 k) ∧ k < 5 ∧ jmp ts a k ≠ jmp ts b k ∧ Below w.heap.size w w'

set_option maxHeartbeats 400000 in
theorem split_any (ts : List Blk) (a b : Nat) (w : World) (hne : rowEq ts a b = false) :
    Calls Try.prog 117 #[rowV ts a, rowV ts b] w (SplitPost w ts a b) := by
  have hca : ∀ (o : Obj) (i : Nat), i < 5 → ((w.alloc (.cells #[.int .i64 (jmp ts a 0), .int .i64 (jmp ts a 1), .int .i64 (jmp ts a 2), .int .i64 (jmp ts a 3), .int .i64 (jmp ts a 4)] 114)).alloc o).cell? ⟨w.heap.size, i, none⟩ = some (.int .i64 (jmp ts a i)) := fun o i hi => by
    rw [cell_of_row _ _ _ _ _ _ (heap_alloc2_old _ _ _)]
    rcases five hi with rfl | rfl | rfl | rfl | rfl <;> rfl
  have hcb : ∀ (o : Obj) (i : Nat), i < 5 → ((w.alloc o).alloc (.cells #[.int .i64 (jmp ts b 0), .int .i64 (jmp ts b 1), .int .i64 (jmp ts b 2), .int .i64 (jmp ts b 3), .int .i64 (jmp ts b 4)] 114)).cell? ⟨w.heap.size + 1, i, none⟩ = some (.int .i64 (jmp ts b i)) := fun o i hi => by
    rw [cell_of_row _ _ _ _ _ _ (heap_alloc2_new _ _ _)]
    rcases five hi with rfl | rfl | rfl | rfl | rfl <;> rfl
  have hB : ∀ o o' : Obj, Below w.heap.size w ((w.alloc o).alloc o') := fun o o' => ((Below.refl _ w).alloc (Nat.le_refl _) o).alloc (by simp) o'
  have h1 := Lib.hid hca; have h2 := Lib.hid hcb; have h3 := Lib.hid hB; have hne' := Lib.hid hne
  clear hca hcb hB hne
  unfold rowV
  go_enter Try.func117, Try.ntmps117
  go_wp2_with fail
  have k1 := Lib.hid (h1.out (.cells #[.int .i64 (jmp ts b 0), .int .i64 (jmp ts b 1), .int .i64 (jmp ts b 2), .int .i64 (jmp ts b 3), .int .i64 (jmp ts b 4)] 114))
  have k2 := Lib.hid (h2.out (.cells #[.int .i64 (jmp ts a 0), .int .i64 (jmp ts a 1), .int .i64 (jmp ts a 2), .int .i64 (jmp ts a 3), .int .i64 (jmp ts a 4)] 114))
  have k3 := Lib.hid (h3.out (.cells #[.int .i64 (jmp ts a 0), .int .i64 (jmp ts a 1), .int .i64 (jmp ts a 2), .int .i64 (jmp ts a 3), .int .i64 (jmp ts a 4)] 114) (.cells #[.int .i64 (jmp ts b 0), .int .i64 (jmp ts b 1), .int .i64 (jmp ts b 2), .int .i64 (jmp ts b 3), .int .i64 (jmp ts b 4)] 114))
  clear h1 h2 h3
  generalize ((w.alloc (.cells #[.int .i64 (jmp ts a 0), .int .i64 (jmp ts a 1), .int .i64 (jmp ts a 2), .int .i64 (jmp ts a 3), .int .i64 (jmp ts a 4)] 114)).alloc (.cells #[.int .i64 (jmp ts b 0), .int .i64 (jmp ts b 1), .int .i64 (jmp ts b 2), .int .i64 (jmp ts b 3), .int .i64 (jmp ts b 4)] 114)) = wx at k1 k2 k3 ⊢
  go_loopw [5] (fun i wr => ∃ k : Nat, k < 5 ∧ i = .int .i64 k ∧ Hid (∀ j, k < j → j < 5 → jmp ts a j = jmp ts b j) ∧ ∃ m, wr = wx.drewN m) (fun i _ => (intOf i).toNat)
  case atStart => exact ⟨4, by omega, rfl, Lib.hid (fun j h1 h2 => by omega), 0, rfl⟩
  case round =>
    obtain ⟨k, hk, rfl, hall, m, rfl⟩ := hrel
    have c1 := k1.out k hk
    have c2 := k2.out k hk
    by_cases h0 : 0 < k
    · cases hx : (jmp ts a k == jmp ts b k)
      · go_wp2_with fail
        go_quiet (fail)
        go_wp2_with fail
        go_ret
        exact ⟨k, rfl, hk, by simpa using hx, below_drewN (below_drewN k3.out _) _⟩
      · have hx' := Lib.hid hx
        go_wp2_with fail
        go_quiet (fail)
        go_wp2_with fail
        go_roundw
        case rel =>
          refine ⟨k - 1, by omega, by go_num, Lib.hid (fun j h1 h2 => ?_), _, rfl⟩
          by_cases e : j = k
          · subst e; exact eq_of_beq hx'.out
          · exact hall.out j (by omega) h2
        case measure => simp [intOf]; omega
    · have hk0 : k = 0 := by omega
      subst hk0
      have hdiff := Lib.hid (show jmp ts a 0 ≠ jmp ts b 0 by
        intro e
        have := hne'.out
        unfold rowEq at this
        rw [e, hall.out 1 (by omega) (by omega), hall.out 2 (by omega) (by omega), hall.out 3 (by omega) (by omega), hall.out 4 (by omega) (by omega)] at this
        simp at this)
      clear h0
      go_wp2_with fail
      go_quiet (fail)
      go_wp2_with fail
      go_ret
      exact ⟨0, rfl, by omega, hdiff.out, below_drewN (below_drewN k3.out _) _⟩
end Go.Proofs.Ythiegfbdmmpabab
