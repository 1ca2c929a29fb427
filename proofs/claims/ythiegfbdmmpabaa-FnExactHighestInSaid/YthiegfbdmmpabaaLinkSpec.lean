/- What is proved here: what the model's OneLink, GoodLinks, WhoLinks and IsLinked return. No conditions but lengths. -/
import Derived.Test.YthiegfbdmmpabaaLinkFacts
import Derived.Test.YthiegfbdmmpabaaVotePoolSpec
namespace Go.Proofs.Ythiegfbdmmpabaa
open Go.RowKit

theorem ne_bool (a b : Int) : ((a != b) = true ∧ a ≠ b) ∨ ((a != b) = false ∧ a = b) := by
  by_cases h : a = b
  · exact .inr ⟨by simp [h], h⟩
  · exact .inl ⟨by simp [h], h⟩
theorem l10One_any (A : Option Addr) (n c : Nat) (ts : List Blk) (a b : Nat) (w : World) (h : BlksAt w w.heap.size A n ts) (hn : n ≤ 1048576) (ht : Tree ts) (hb : b < ts.length) :
    Calls Try.prog 81 #[.slice A n c, .int .i64 a, .int .i64 b] w (UpPost w (.bool (((a : Int) != (b : Int)) && abv ts a b))) := by
  have hh := Lib.hid h; clear h
  rcases ne_bool (a : Int) (b : Int) with ⟨h1, _⟩ | ⟨h1, _⟩
  · have h2 := Lib.hid h1
    go_enter Try.func81, Try.ntmps81
    go_wp2_with (go_at_call 107; refine (l3Above_any _ _ _ ts a b _ hh.out hn ht hb).mono ?_; rintro e w1 ⟨rfl, b1⟩; have u1 := Lib.hid b1; clear b1)
    go_ret
    exact ⟨ret_bool (by rw [h2.out]; rfl), u1.out⟩
  · have h2 := Lib.hid h1
    go_enter Try.func81, Try.ntmps81
    go_wp2_with fail
    go_ret
    exact ⟨ret_bool (by rw [h2.out]; rfl), Below.refl _ _⟩

set_option maxHeartbeats 400000 in
theorem specOneLink_any (A : Option Addr) (n c : Nat) (ts : List Blk) (a b : Int) (w : World) (h : BlksAt w w.heap.size A n ts) (hn : n ≤ 1048576) :
    Calls Try.prog 40 #[.slice A n c, .int .i64 a, .int .i64 b] w (UpPost w (.tuple #[.bool (oneR ts a b), .bool (abvOk ts a b)])) := by
  have hh := Lib.hid h; clear h
  cases hk : okK ts a
  · have hr := Lib.hid (show abvOk ts a b = false by unfold abvOk; rw [hk]; rfl)
    have hr2 := Lib.hid (show oneR ts a b = false by unfold oneR abvR; rw [hr.out]; rfl)
    go_enter Try.func40, Try.ntmps40
    go_wp2_with (go_at_call 109; refine (there_ok _ _ _ ts _ _ hh.out hn).mono ?_; rintro e w1 ⟨rfl, b1⟩; rw [hk])
    go_ret2
    exact ⟨ret_bools hr2.out.symm hr.out.symm, b1⟩
  · cases hk2 : okK ts b
    · have hr := Lib.hid (show abvOk ts a b = false by unfold abvOk; rw [hk, hk2]; rfl)
      have hr2 := Lib.hid (show oneR ts a b = false by unfold oneR abvR; rw [hr.out]; rfl)
      go_enter Try.func40, Try.ntmps40
      go_wp2_with fail
      refine (there_ok _ _ _ ts _ _ hh.out hn).mono ?_
      rintro e w1 ⟨rfl, b1⟩
      rw [hk]
      have u1 := Lib.hid b1; have h1 := Lib.hid (hh.out.up b1); clear b1
      go_wp2_with fail
      refine (there_ok _ _ _ ts _ _ h1.out hn).mono ?_
      rintro e w2 ⟨rfl, b2⟩
      rw [hk2]
      have u2 := Lib.hid (u1.out.trans (b2.mono u1.out.size)); clear b2
      go_wp2_with fail
      go_ret2
      exact ⟨ret_bools hr2.out.symm hr.out.symm, u2.out⟩
    · obtain ⟨ht, x, rfl, hxl⟩ := okK_iff.1 hk
      obtain ⟨_, y, rfl, hyl⟩ := okK_iff.1 hk2
      have hr := Lib.hid (show abvOk ts x y = true by unfold abvOk; rw [hk, hk2]; rfl)
      have hr2 := Lib.hid (show oneR ts x y = (((x : Int) != (y : Int)) && abv ts x y) by unfold oneR abvR; rw [hr.out, Bool.and_comm]; rfl)
      go_enter Try.func40, Try.ntmps40
      go_wp2_with fail
      refine (there_ok _ _ _ ts _ _ hh.out hn).mono ?_
      rintro e w1 ⟨rfl, b1⟩
      rw [hk]
      have u1 := Lib.hid b1; have h1 := Lib.hid (hh.out.up b1); clear b1
      go_wp2_with fail
      refine (there_ok _ _ _ ts _ _ h1.out hn).mono ?_
      rintro e w2 ⟨rfl, b2⟩
      rw [hk2]
      have u2 := Lib.hid (u1.out.trans (b2.mono u1.out.size)); have h2 := Lib.hid (h1.out.up b2); clear b2
      go_wp2_with fail
      refine (l10One_any _ _ _ ts x y _ h2.out hn ht hyl).mono ?_
      rintro e w3 ⟨rfl, b3⟩
      have u3 := Lib.hid (u2.out.trans (b3.mono u2.out.size)); clear b3
      rw [← hr2.out]
      go_wp2_with fail
      go_ret2
      exact ⟨ret_bools rfl hr.out.symm, u3.out⟩

theorem links_no {ts : List Blk} {ss : List Int} {ls : List Vt} {k : Nat} (hk : k < ls.length) (h : linkOk ts ss.length (getV ls k) = false) : linksOk ts ss ls = false := by
  unfold linksOk; rw [all_no hk h]; simp
theorem links_yes {ts : List Blk} {ss : List Int} {ls : List Vt} (h : ∀ k, k < ls.length → linkOk ts ss.length (getV ls k) = true) : linksOk ts ss ls = ((goodT ts && goodB ss) && decide (ls.length ≤ 40)) := by
  unfold linksOk; rw [all_yes h]; simp

set_option maxRecDepth 100000 in
set_option maxHeartbeats 3200000 in
theorem specGoodLinks_any (A : Option Addr) (n c : Nat) (ts : List Blk) (A' : Option Addr) (n' c' : Nat) (ss : List Int) (V : Option Addr) (m d : Nat) (vs : List Vt) (w : World) (h : BlksAt w w.heap.size A n ts) (h' : IntsAt w w.heap.size A' n' ss) (hv : VotesAt w w.heap.size V m vs) (hn : n ≤ 1048576) (hn' : n' ≤ 1048576) (hm : m ≤ 1048576) :
    Calls Try.prog 16 #[.slice A n c, .slice A' n' c', .slice V m d] w (UpPost w (.bool (linksOk ts ss vs))) := by
  have hl := Lib.hid h.1; have hl' := Lib.hid h'.1; have hlv := Lib.hid hv.1
  have hh := Lib.hid h; have hh' := Lib.hid h'; have hvv := Lib.hid hv; clear h h' hv
  cases g1 : (goodT ts && goodB ss)
  · have hr := Lib.hid (show linksOk ts ss vs = false by unfold linksOk; rw [g1]; rfl)
    go_enter Try.func16, Try.ntmps16
    go_wp2_with (go_at_call 79; refine (l6Both_any A n c ts A' n' c' ss _ hh.out hh'.out hn hn').mono ?_; rintro e w2 ⟨rfl, b2⟩; rw [g1]; have u1 := Lib.hid b2; clear b2)
    go_ret
    exact ⟨ret_bool hr.out.symm, u1.out⟩
  · have ht : Tree ts := goodT_iff.1 (by rw [Bool.and_eq_true] at g1; exact g1.1)
    have hgb : goodB ss = true := by rw [Bool.and_eq_true] at g1; exact g1.2
    by_cases h40 : m ≤ 40
    · have h40' : ¬ (40 : Int) < (m : Int) := by omega
      have hy := Lib.hid (fun (hq : ∀ k, k < vs.length → linkOk ts ss.length (getV vs k) = true) => show linksOk ts ss vs = true by rw [links_yes hq, g1, hlv.out, decide_eq_true h40]; rfl)
      go_enter Try.func16, Try.ntmps16
      go_wp2_with (go_at_call 79; refine (l6Both_any A n c ts A' n' c' ss _ hh.out hh'.out hn hn').mono ?_; rintro e w2 ⟨rfl, b2⟩; rw [g1]; have u1 := Lib.hid b2; clear b2)
      go_loopw [8, 20] (fun _ i wr => ∃ k : Nat, k ≤ m ∧ i = .int .i64 k ∧ Hid (∀ j, j < k → linkOk ts ss.length (getV vs j) = true) ∧ Hid (Below w.heap.size w wr)) (fun _ i _ => m - (intOf i).toNat)
      case atStart => exact ⟨0, Nat.zero_le _, rfl, Lib.hid (fun _ h => absurd h (Nat.not_lt_zero _)), u1⟩
      case round =>
        obtain ⟨k, hk, rfl, hall, hbel⟩ := hrel
        by_cases hlt : k < m
        · obtain ⟨vb, vo, rfl, hvb, q0, q1, q2⟩ := hvv.out.2 k hlt
          have c0 := (hbel.out.cell (p := ⟨vb, vo + k * 3, none⟩) hvb).trans q0
          have c1 := (hbel.out.cell (p := ⟨vb, vo + k * 3 + 1, none⟩) hvb).trans q1
          have c2 := (hbel.out.cell (p := ⟨vb, vo + k * 3 + 2, none⟩) hvb).trans q2
          obtain ⟨v, hvk⟩ : ∃ v, getV vs k = v := ⟨_, rfl⟩
          rw [hvk] at c0 c1 c2
          have hvk' := Lib.hid hvk
          obtain ⟨x, y, z⟩ := v
          simp only at c0 c1 c2
          have hb1 := bx_below wr (.cells #[.int .i64 x, .int .i64 y, .int .i64 z] 93)
          have r3 := three_cells wr x y z 93
          obtain ⟨W, hW⟩ : ∃ W, wr.alloc (.cells #[.int .i64 x, .int .i64 y, .int .i64 z] 93) = W := ⟨_, rfl⟩
          rw [hW] at hb1 r3
          have hW' := Lib.hid hW
          have u2 := Lib.hid (hbel.out.trans (hb1.mono hbel.out.size))
          have e0 := r3.cell (i := 0) (by omega)
          have e1 := r3.cell (i := 1) (by omega)
          have e2 := r3.cell (i := 2) (by omega)
          simp only [if_true, if_false, show (1 : Nat) ≠ 0 by decide, show (2 : Nat) ≠ 0 by decide, show (2 : Nat) ≠ 1 by decide] at e0 e1 e2
          have hst := Lib.hid (show linkOk ts ss.length (getV vs k) = linkOk ts n' (x, y, z) by rw [hvk, hl'.out])
          have hno := Lib.hid (fun (hq : linkOk ts n' (x, y, z) = false) => links_no (ts := ts) (ss := ss) (ls := vs) (k := k) (by rw [hlv.out]; exact hlt) (hst.out.trans hq))
          clear hW hb1 r3 hvk q0 q1 q2
          cases i0 : inB x 0 ((n' : Int) - 1)
          · have hr := Lib.hid (hno.out (by unfold linkOk; rw [show inB (x, y, z).1 0 ((n' : Int) - 1) = false from i0]; simp))
            go_wp2_with fail
            rw [hW'.out]
            go_wp2_with (go_at_call 80; refine (l1In_any _ _ _ _).mono ?_; rintro e w4 ⟨rfl, rfl⟩; rw [i0])
            go_ret
            exact ⟨ret_bool hr.out.symm, u2.out⟩
          · cases i1 : inB y 0 ((n : Int) - 1)
            · have hr := Lib.hid (hno.out (by unfold linkOk oneR abvR abvOk okK; rw [show inB (x, y, z).2.1 0 ((ts.length : Int) - 1) = false from by rw [hl.out]; exact i1]; simp))
              go_wp2_with fail
              rw [hW'.out]
              have tk0 : True := trivial
              go_wp2_with (first
                | (clear tk0; go_at_call 80; refine (l1In_any _ _ _ _).mono ?_; rintro e w4 ⟨rfl, rfl⟩; rw [i0]; have tk1 : True := trivial)
                | (clear tk1; go_at_call 80; refine (l1In_any _ _ _ _).mono ?_; rintro e w4 ⟨rfl, rfl⟩; rw [i1]))
              go_ret
              exact ⟨ret_bool hr.out.symm, u2.out⟩
            · cases i2 : inB z 0 ((n : Int) - 1)
              · have hr := Lib.hid (hno.out (by unfold linkOk oneR abvR abvOk okK; rw [show inB (x, y, z).2.2 0 ((ts.length : Int) - 1) = false from by rw [hl.out]; exact i2]; simp))
                go_wp2_with fail
                rw [hW'.out]
                have tk0 : True := trivial
                go_wp2_with (first
                  | (clear tk0; go_at_call 80; refine (l1In_any _ _ _ _).mono ?_; rintro e w4 ⟨rfl, rfl⟩; rw [i0]; have tk1 : True := trivial)
                  | (clear tk1; go_at_call 80; refine (l1In_any _ _ _ _).mono ?_; rintro e w4 ⟨rfl, rfl⟩; rw [i1]; have tk2 : True := trivial)
                  | (clear tk2; go_at_call 80; refine (l1In_any _ _ _ _).mono ?_; rintro e w4 ⟨rfl, rfl⟩; rw [i2]))
                go_ret
                exact ⟨ret_bool hr.out.symm, u2.out⟩
              · obtain ⟨Y, rfl⟩ : ∃ Y : Nat, y = Y := ⟨y.toNat, by have := inB_iff.1 i1; omega⟩
                obtain ⟨Z, rfl⟩ : ∃ Z : Nat, z = Z := ⟨z.toNat, by have := inB_iff.1 i2; omega⟩
                have hZ : Z < ts.length := by have := inB_iff.1 i2; rw [hl.out]; omega
                have hY : Y < ts.length := by have := inB_iff.1 i1; rw [hl.out]; omega
                have hlk := Lib.hid (show linkOk ts n' (x, (Y : Int), (Z : Int)) = (((Y : Int) != (Z : Int)) && abv ts Y Z) by
                  unfold linkOk oneR abvR abvOk
                  rw [show inB (x, (Y : Int), (Z : Int)).1 0 ((n' : Int) - 1) = true from i0, okK_iff.2 ⟨ht, Y, rfl, hY⟩, okK_iff.2 ⟨ht, Z, rfl, hZ⟩]
                  simp [Bool.and_comm])
                have hone := Lib.hid (fun W' (hb : Below W.heap.size W W') => l10One_any A n c ts Y Z W' (hh.out.up (u2.out.trans (hb.mono u2.out.size))) hn ht hZ)
                cases g2 : (((Y : Int) != (Z : Int)) && abv ts Y Z)
                · have hr := Lib.hid (hno.out (hlk.out.trans g2))
                  rw [g2] at hone
                  clear g2
                  go_wp2_with fail
                  rw [hW'.out]
                  have tk0 : True := trivial
                  go_wp2_with (first
                    | (clear tk0; go_at_call 80; refine (l1In_any _ _ _ _).mono ?_; rintro e w4 ⟨rfl, rfl⟩; rw [i0]; have tk1 : True := trivial)
                    | (clear tk1; go_at_call 80; refine (l1In_any _ _ _ _).mono ?_; rintro e w4 ⟨rfl, rfl⟩; rw [i1]; have tk2 : True := trivial)
                    | (clear tk2; go_at_call 80; refine (l1In_any _ _ _ _).mono ?_; rintro e w4 ⟨rfl, rfl⟩; rw [i2]; have tk3 : True := trivial)
                    | (clear tk3; go_at_call 81; refine (hone.out _ (Below.refl _ _)).mono ?_; rintro e w4 ⟨rfl, b4⟩; have u4 := Lib.hid (u2.out.trans (b4.mono u2.out.size)); clear b4))
                  go_ret
                  exact ⟨ret_bool hr.out.symm, u4.out⟩
                · have hnx := Lib.hid (show ∀ j, j < k + 1 → linkOk ts ss.length (getV vs j) = true from fun j hj => by
                    by_cases e : j = k
                    · rw [e, hst.out, hlk.out]; exact g2
                    · exact hall.out j (by omega))
                  rw [g2] at hone
                  clear g2
                  go_wp2_with fail
                  rw [hW'.out]
                  have tk0 : True := trivial
                  go_wp2_with (first
                    | (clear tk0; go_at_call 80; refine (l1In_any _ _ _ _).mono ?_; rintro e w4 ⟨rfl, rfl⟩; rw [i0]; have tk1 : True := trivial)
                    | (clear tk1; go_at_call 80; refine (l1In_any _ _ _ _).mono ?_; rintro e w4 ⟨rfl, rfl⟩; rw [i1]; have tk2 : True := trivial)
                    | (clear tk2; go_at_call 80; refine (l1In_any _ _ _ _).mono ?_; rintro e w4 ⟨rfl, rfl⟩; rw [i2]; have tk3 : True := trivial)
                    | (clear tk3; go_at_call 81; refine (hone.out _ (Below.refl _ _)).mono ?_; rintro e w4 ⟨rfl, b4⟩; have u4 := Lib.hid (u2.out.trans (b4.mono u2.out.size)); clear b4))
                  go_roundw
                  case rel => exact ⟨k + 1, by omega, by go_num, hnx, u4⟩
                  case measure => simp [intOf]; omega
        · have hr := Lib.hid (hy.out (fun j hj => hall.out j (by have := hlv.out; omega)))
          go_wp2_with fail
          go_ret
          exact ⟨ret_bool hr.out.symm, hbel.out⟩
    · have h40' : (40 : Int) < (m : Int) := by omega
      have hr := Lib.hid (show linksOk ts ss vs = false by unfold linksOk; rw [decide_eq_false (by rw [hlv.out]; exact h40)]; simp)
      go_enter Try.func16, Try.ntmps16
      go_wp2_with (go_at_call 79; refine (l6Both_any A n c ts A' n' c' ss _ hh.out hh'.out hn hn').mono ?_; rintro e w2 ⟨rfl, b2⟩; rw [g1]; have u1 := Lib.hid b2; clear b2)
      go_ret
      exact ⟨ret_bool hr.out.symm, u1.out⟩
end Go.Proofs.Ythiegfbdmmpabaa
