/- What is proved here: what the program's OneLink and GoodLinks return. No conditions but lengths. -/
import Derived.Test.YthiegfbdmmpabaaLinkFacts
import Derived.Test.YthiegfbdmmpabaaVotePool
namespace Go.Proofs.Ythiegfbdmmpabaa
open Go.RowKit

theorem ne_boolI (a b : Int) : ((a != b) = true ∧ a ≠ b) ∨ ((a != b) = false ∧ a = b) := by
  by_cases h : a = b
  · exact .inr ⟨by simp [h], h⟩
  · exact .inl ⟨by simp [h], h⟩
theorem linksI_no {ts : List Blk} {ss : List Int} {ls : List Vt} {k : Nat} (hk : k < ls.length) (h : linkOk ts ss.length (getV ls k) = false) : linksOk ts ss ls = false := by
  unfold linksOk; rw [all_no hk h]; simp
theorem linksI_yes {ts : List Blk} {ss : List Int} {ls : List Vt} (h : ∀ k, k < ls.length → linkOk ts ss.length (getV ls k) = true) : linksOk ts ss ls = ((goodT ts && goodB ss) && decide (ls.length ≤ 40)) := by
  unfold linksOk; rw [all_yes h]; simp
set_option maxRecDepth 100000 in
set_option maxHeartbeats 400000 in
theorem implOneLink_any (A : Option Addr) (n c : Nat) (ts : List Blk) (a b : Int) (w : World) (h : BlksAt w w.heap.size A n ts) (hn : n ≤ 1048576) :
    Calls Try.prog 41 #[.slice A n c, .int .i64 a, .int .i64 b] w (UpPost w (.tuple #[.bool (oneR ts a b), .bool (abvOk ts a b)])) := by
  have hh := Lib.hid h; clear h
  have ha := Lib.hid (fun W (hW : BlksAt W W.heap.size A n ts) => implAbove_any A n c ts a b W hW hn)
  cases g : abvR ts a b
  · have hr := Lib.hid (show oneR ts a b = false by unfold oneR; rw [g]; rfl)
    rw [g] at ha
    clear g
    obtain ⟨ok, hok⟩ : ∃ ok, abvOk ts a b = ok := ⟨_, rfl⟩
    rw [hok] at ha ⊢
    go_enter Try.func41, Try.ntmps41
    go_wp2_with (go_at_call 108; refine (ha.out _ hh.out).mono ?_; rintro e w1 ⟨rfl, b1⟩; have u1 := Lib.hid b1; clear b1)
    go_ret2
    exact ⟨ret_bools hr.out.symm rfl, u1.out⟩
  · rw [g] at ha
    rcases ne_boolI a b with ⟨h1, -⟩ | ⟨h1, -⟩
    all_goals
      have hr := Lib.hid (show oneR ts a b = (a != b) by unfold oneR; rw [g]; rfl)
      rw [h1] at hr
      obtain ⟨ok, hok⟩ : ∃ ok, abvOk ts a b = ok := ⟨_, rfl⟩
      rw [hok] at ha ⊢
      clear g hok
      go_enter Try.func41, Try.ntmps41
      go_wp2_with (go_at_call 108; refine (ha.out _ hh.out).mono ?_; rintro e w1 ⟨rfl, b1⟩; have u1 := Lib.hid b1; clear b1)
      go_ret2
      rw [hr.out]
      exact ⟨rfl, u1.out⟩

set_option maxRecDepth 100000 in
set_option maxHeartbeats 3200000 in
theorem implGoodLinks_any (A : Option Addr) (n c : Nat) (ts : List Blk) (A' : Option Addr) (n' c' : Nat) (ss : List Int) (V : Option Addr) (m d : Nat) (vs : List Vt) (w : World) (h : BlksAt w w.heap.size A n ts) (h' : IntsAt w w.heap.size A' n' ss) (hv : VotesAt w w.heap.size V m vs) (hn : n ≤ 1048576) (hn' : n' ≤ 1048576) (hm : m ≤ 1048576) :
    Calls Try.prog 20 #[.slice A n c, .slice A' n' c', .slice V m d] w (UpPost w (.bool (linksOk ts ss vs))) := by
  have hl := Lib.hid h.1; have hl' := Lib.hid h'.1; have hlv := Lib.hid hv.1
  have hh := Lib.hid h; have hh' := Lib.hid h'; have hvv := Lib.hid hv; clear h h' hv
  cases g1 : goodT ts
  · have hr := Lib.hid (show linksOk ts ss vs = false by unfold linksOk; rw [g1]; rfl)
    go_enter Try.func20, Try.ntmps20
    go_wp2_with (go_at_call 84; refine (implGoodT_any _ _ _ ts _ hh.out hn).mono ?_; rintro e w2 ⟨rfl, b2⟩; rw [g1]; have u1 := Lib.hid b2; clear b2)
    go_ret
    exact ⟨ret_bool hr.out.symm, u1.out⟩
  · cases g3 : goodB ss
    · have hr := Lib.hid (show linksOk ts ss vs = false by unfold linksOk; rw [g1, g3]; rfl)
      go_enter Try.func20, Try.ntmps20
      go_wp2_with (first
        | (go_at_call 84; refine (implGoodT_any _ _ _ ts _ hh.out hn).mono ?_; rintro e w2 ⟨rfl, b2⟩; rw [g1]; have u1 := Lib.hid b2; clear b2)
        | (go_at_call 85; refine (implGood_any _ _ _ _ ss _ (hh'.out.up' u1.out) hn').mono ?_; rintro e w2 ⟨rfl, rfl⟩; rw [g3]))
      go_ret
      exact ⟨ret_bool hr.out.symm, u1.out⟩
    · by_cases h40 : m ≤ 40
      · have h40' : ¬ (40 : Int) < (m : Int) := by omega
        have hy := Lib.hid (fun (hq : ∀ k, k < vs.length → linkOk ts ss.length (getV vs k) = true) => show linksOk ts ss vs = true by rw [linksI_yes hq, g1, g3, hlv.out, decide_eq_true h40]; rfl)
        go_enter Try.func20, Try.ntmps20
        go_wp2_with (first
          | (go_at_call 84; refine (implGoodT_any _ _ _ ts _ hh.out hn).mono ?_; rintro e w2 ⟨rfl, b2⟩; rw [g1]; have u1 := Lib.hid b2; clear b2)
          | (go_at_call 85; refine (implGood_any _ _ _ _ ss _ (hh'.out.up' u1.out) hn').mono ?_; rintro e w2 ⟨rfl, rfl⟩; rw [g3]))
        go_loopw [8, 9, 10, 26] (fun _ _ _ i wr => ∃ k : Nat, k ≤ m ∧ i = .int .i64 k ∧ Hid (∀ j, j < k → linkOk ts ss.length (getV vs j) = true) ∧ Hid (Below w.heap.size w wr)) (fun _ _ _ i _ => m - (intOf i).toNat)
        case atStart => exact ⟨0, Nat.zero_le _, rfl, Lib.hid (fun _ h => absurd h (Nat.not_lt_zero _)), u1⟩
        case round =>
          obtain ⟨k, hk, rfl, hall, hbel⟩ := hrel
          by_cases hlt : k < m
          · obtain ⟨vb, vo, rfl, hvb, q0, q1, q2⟩ := hvv.out.2 k hlt
            have c0 := (hbel.out.cell (p := ⟨vb, vo + k * 3, none⟩) hvb).trans q0
            have c1 := (hbel.out.cell (p := ⟨vb, vo + k * 3 + 1, none⟩) hvb).trans q1
            have c2 := (hbel.out.cell (p := ⟨vb, vo + k * 3 + 2, none⟩) hvb).trans q2
            obtain ⟨v, hvk⟩ : ∃ v, getV vs k = v := ⟨_, rfl⟩
            rw [hvk] at c0 c1 c2
            obtain ⟨x, y, z⟩ := v
            simp only at c0 c1 c2
            have hb1 := bx_below wr (.cells #[.int .i64 x, .int .i64 y, .int .i64 z] 93)
            have r3 := three_cells wr x y z 93
            obtain ⟨W, hW⟩ : ∃ W, wr.alloc (.cells #[.int .i64 x, .int .i64 y, .int .i64 z] 93) = W := ⟨_, rfl⟩
            rw [hW] at hb1 r3
            have hW' := Lib.hid hW
            have u2 := Lib.hid (hbel.out.trans (hb1.mono hbel.out.size))
            have e0 := r3.cell (i := 0) (by omega)
            have e1 := r3.cell (i := 1) (by omega)
            have e2 := r3.cell (i := 2) (by omega)
            simp only [if_true, if_false, show (1 : Nat) ≠ 0 by decide, show (2 : Nat) ≠ 0 by decide, show (2 : Nat) ≠ 1 by decide] at e0 e1 e2
            have E0 := Lib.hid e0; have rl := Lib.hid r3.lt
            have hst := Lib.hid (show linkOk ts ss.length (getV vs k) = linkOk ts n' (x, y, z) by rw [hvk, hl'.out])
            have hno := Lib.hid (fun (hq : linkOk ts n' (x, y, z) = false) => linksI_no (ts := ts) (ss := ss) (ls := vs) (k := k) (by rw [hlv.out]; exact hlt) (hst.out.trans hq))
            have hone := Lib.hid (implOneLink_any A n c ts y z W (hh.out.up u2.out) hn)
            obtain ⟨ok, hok⟩ : ∃ ok, abvOk ts y z = ok := ⟨_, rfl⟩
            rw [hok] at hone
            clear hW hb1 r3 hvk q0 q1 q2 hok
            cases g2 : oneR ts y z
            · have hr := Lib.hid (hno.out (by unfold linkOk; rw [show oneR ts (x, y, z).2.1 (x, y, z).2.2 = false from g2]; rfl))
              rw [g2] at hone
              clear g2
              go_wp2_with fail
              rw [hW'.out]
              go_wp2_with (go_at_call 41; refine hone.out.mono ?_; rintro e w4 ⟨rfl, b4⟩; have u4 := Lib.hid (u2.out.trans (b4.mono u2.out.size)); clear b4)
              go_ret
              exact ⟨ret_bool hr.out.symm, u4.out⟩
            · have hlk := Lib.hid (show linkOk ts n' (x, y, z) = inB x 0 ((n' : Int) - 1) by unfold linkOk; rw [show oneR ts (x, y, z).2.1 (x, y, z).2.2 = true from g2]; rfl)
              rw [g2] at hone
              clear g2
              by_cases hx0 : x < 0
              · have hr := Lib.hid (hno.out (hlk.out.trans (inB_low hx0)))
                go_wp2_with fail
                rw [hW'.out]
                go_wp2_with (go_at_call 41; refine hone.out.mono ?_; rintro e w4 ⟨rfl, b4⟩; have u4 := Lib.hid (u2.out.trans (b4.mono u2.out.size)); have f4 := (b4.cell (p := ⟨wr.heap.size, 0, none⟩) rl.out).trans E0.out; clear b4)
                go_ret
                exact ⟨ret_bool hr.out.symm, u4.out⟩
              · by_cases hx1 : (n' : Int) ≤ x
                · have hr := Lib.hid (hno.out (hlk.out.trans (inB_high (by omega))))
                  go_wp2_with fail
                  rw [hW'.out]
                  go_wp2_with (go_at_call 41; refine hone.out.mono ?_; rintro e w4 ⟨rfl, b4⟩; have u4 := Lib.hid (u2.out.trans (b4.mono u2.out.size)); have f4 := (b4.cell (p := ⟨wr.heap.size, 0, none⟩) rl.out).trans E0.out; clear b4)
                  go_ret
                  exact ⟨ret_bool hr.out.symm, u4.out⟩
                · have hnx := Lib.hid (show ∀ j, j < k + 1 → linkOk ts ss.length (getV vs j) = true from fun j hj => by
                    by_cases e : j = k
                    · rw [e, hst.out, hlk.out]; exact inB_true (by omega) (by omega)
                    · exact hall.out j (by omega))
                  go_wp2_with fail
                  rw [hW'.out]
                  go_wp2_with (go_at_call 41; refine hone.out.mono ?_; rintro e w4 ⟨rfl, b4⟩; have u4 := Lib.hid (u2.out.trans (b4.mono u2.out.size)); have f4 := (b4.cell (p := ⟨wr.heap.size, 0, none⟩) rl.out).trans E0.out; clear b4)
                  go_roundw
                  case rel => exact ⟨k + 1, by omega, by go_num, hnx, u4⟩
                  case measure => simp [intOf]; omega
          · have hr := Lib.hid (hy.out (fun j hj => hall.out j (by have := hlv.out; omega)))
            go_wp2_with fail
            go_ret
            exact ⟨ret_bool hr.out.symm, hbel.out⟩
      · have h40' : (40 : Int) < (m : Int) := by omega
        have hr := Lib.hid (show linksOk ts ss vs = false by unfold linksOk; rw [decide_eq_false (by rw [hlv.out]; exact h40)]; simp)
        go_enter Try.func20, Try.ntmps20
        go_wp2_with (first
          | (go_at_call 84; refine (implGoodT_any _ _ _ ts _ hh.out hn).mono ?_; rintro e w2 ⟨rfl, b2⟩; rw [g1]; have u1 := Lib.hid b2; clear b2)
          | (go_at_call 85; refine (implGood_any _ _ _ _ ss _ (hh'.out.up' u1.out) hn').mono ?_; rintro e w2 ⟨rfl, rfl⟩; rw [g3]))
        go_ret
        exact ⟨ret_bool hr.out.symm, u1.out⟩
end Go.Proofs.Ythiegfbdmmpabaa
