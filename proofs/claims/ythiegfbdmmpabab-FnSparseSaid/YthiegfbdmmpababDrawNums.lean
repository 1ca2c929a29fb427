/- What is proved here: what the model's draw of a list of numbers returns: a new slice of at most 61 numbers. No conditions beside that the cursor is one. -/
import Derived.Test.YthiegfbdmmpababLawHelp
import Derived.Deep.Cut
namespace Go.Proofs.Ythiegfbdmmpabab
open Go.RowKit

def NumsPost (w : World) (g B lim : Nat) (e : Ending) (w' : World) : Prop :=
  ∃ A n c xs, e = .returned (.slice A n c) ∧ OwnAt w' w.heap.size A n xs ∧ n ≤ 61 ∧ n ≤ c ∧ CurOk w' g B (lim + 200) ∧ Grew g w.heap.size w w'
theorem nums_only {w w1 : World} {base g : Nat} {v : Value} {n : Nat} {xs : List Value} (h : w.ownsRow base 3 1 v n xs) (o : Only (some ⟨g, 0, none⟩) w w1) (hg : g < base) : w1.ownsRow base 3 1 v n xs :=
  h.kept (row := some g) ⟨o.os, o.tape, o.output, by rw [o.size]; exact Nat.le_refl _, fun i _ hi => o.block i (fun ad e => by cases e; exact fun he => hi (by rw [he]))⟩ (by
    rcases hq : v.ownBlock with _ | q
    · exact .inl rfl
    · right; have := (h.lt q hq).1; intro e; cases e; omega)
theorem nums_cap {w : World} {base : Nat} {e : TypeId} {size : Nat} {A : Option Addr} {n c m : Nat} {xs : List Value} (h : w.ownsRow base e size (.slice A n c) m xs) : n ≤ c := by
  rcases h.2 with ⟨e1, _⟩ | ⟨g, cap, cur, e1, _, _, hc, _⟩
  · cases e1; exact Nat.le_refl _
  · cases e1; exact hc
theorem nums_three (w : World) (a b c : Int) (t : TypeId) : IntsAt (w.alloc (.cells #[.int .i64 a, .int .i64 b, .int .i64 c] t)) (w.heap.size + 1) (some ⟨w.heap.size, 0, none⟩) 3 [a, b, c] :=
  ⟨rfl, fun k hk => ⟨w.heap.size, 0, rfl, by omega, by
    have : k = 0 ∨ k = 1 ∨ k = 2 := by omega
    rcases this with rfl | rfl | rfl <;> simp⟩⟩

set_option maxHeartbeats 3200000 in
set_option maxRecDepth 100000 in
theorem numbers_any (g B lim : Nat) (w : World) (h : CurOk w g B lim) (hB : B ≤ w.heap.size) (hlim : lim ≤ 274877906944) :
    Calls Try.prog 100 #[.pointer (some ⟨g, 0, none⟩)] w (NumsPost w g B lim) := by
  obtain ⟨i0, hi0, hz0, hz1, hz2⟩ := info_parts info3
  have hgB := h.1
  go_enter Try.func100, Try.ntmps100
  go_wp2_with fail
  refine (pick_any g B lim 20 w h (by omega) (by decide)).mono ?_
  rintro e w1 ⟨x, rfl, x0, x1, c1, o1⟩
  have x2 : x ≤ 20 := by omega
  obtain ⟨m0, rfl⟩ := Int.eq_ofNat_of_zero_le x0
  have hm0 : m0 ≤ 20 := by omega
  have g1 := Lib.hid (Grew.of_only o1 (B := w.heap.size))
  clear x0 x1 x2 h o1
  go_wp2_with fail
  refine (one_any g B (lim + 2) 20 w1 c1 (by omega) (by decide)).mono ?_
  rintro e w2 ⟨b, rfl, c2, o2⟩
  have g2 := Lib.hid (g1.out.trans (Grew.of_only o2))
  have s2 := g2.out.size
  have c2' := Lib.hid c2
  clear o2 c1 g1 c2
  go_upto_if 9 with fail
  go_cut [4] from 5 (fun s4 wc => ∃ m : Nat, s4 = .int .i64 m ∧ m ≤ 61 ∧ Hid (CurOk wc g B (lim + 6)) ∧ Hid (Grew g w.heap.size w wc))
  case first =>
    cases b
    · go_wp2_with fail
      go_meet
      case rel => exact ⟨m0 + 1, by rw [show ((m0 + 1 : Nat) : Int) = 1 + (m0 : Int) by omega], by omega, Lib.hid (c2'.out.more (by omega)), g2⟩
    · go_wp2_with fail
      have bel3 : Below w2.heap.size w2 (w2.alloc (.cells #[.int .i64 0, .int .i64 60, .int .i64 61] 3)) := (Below.refl _ w2).alloc (Nat.le_refl _) _
      have g3 := Lib.hid (g2.out.trans (Grew.of_below (bel3.mono s2) (g := g)))
      refine (among_any g B (lim + 4) 3 3 _ _ [0, 60, 61] _ (c2'.out.below (bel3.mono (Nat.le_trans hB s2))) (by omega) (nums_three w2 0 60 61 3) (by decide) (by decide) (fun ad e => by cases e; show w2.heap.size ≠ g; omega)).mono ?_
      rintro e w3 ⟨k, hk, rfl, c3, o3⟩
      have g4 := Lib.hid (g3.out.trans (Grew.of_only o3))
      have c3' := Lib.hid c3
      have hv : ∃ m : Nat, ([0, 60, 61] : List Int)[k]?.getD 0 = (m : Int) ∧ m ≤ 61 := by
        have : k = 0 ∨ k = 1 ∨ k = 2 := by omega
        rcases this with rfl | rfl | rfl
        · exact ⟨0, rfl, by decide⟩
        · exact ⟨60, rfl, by decide⟩
        · exact ⟨61, rfl, by decide⟩
      obtain ⟨m, hm, hm61⟩ := hv
      rw [hm]
      clear bel3 o3 c3 hm
      go_wp2_with fail
      go_meet
      case rel => exact ⟨m, rfl, hm61, Lib.hid (c3'.out.more (by omega)), g4⟩
  case rest =>
    obtain ⟨m, rfl, hm, cc, gc⟩ := hcut
    clear c2' g2 hm0
    go_wp2_with fail
    go_loopw [3, 4] (fun v i wr => ∃ (k : Nat) (xs : List Int), i = .int .i64 k ∧ xs.length + k ≤ 61 ∧ Hid (wr.ownsRow w.heap.size 3 1 v xs.length (xs.map (Value.int .i64))) ∧ Hid (CurOk wr g B (lim + 6 + 2 * (61 - k))) ∧ Hid (Grew g w.heap.size w wr)) (fun _ i _ => (intOf i).toNat)
    case atStart => exact ⟨m, [], rfl, by simpa using hm, Lib.hid (World.ownsRow_nil _ _ _ _), Lib.hid (cc.out.more (by omega)), gc⟩
    case round =>
      obtain ⟨k, xs, rfl, hk, ho, hcu, hgr⟩ := hrel
      by_cases hlt : 0 < k
      · go_wp2_with fail
        refine (pick_any g B (lim + 6 + 2 * (61 - k)) 50 wr hcu.out (by omega) (by decide)).mono ?_
        rintro e w4 ⟨y, rfl, _, _, c4, o4⟩
        have own4 := nums_only ho.out o4 (by omega)
        have g4 := hgr.out.trans (Grew.of_only o4)
        have s4 := g4.size
        have own4' := Lib.hid own4; have g4' := Lib.hid g4; have c4' := Lib.hid c4
        clear o4 own4 g4 c4
        go_wp2_with (at_builtin; refine wpList_append_own _ rfl _ _ 24 rfl w.heap.size 3 i0 (.int .i64 0) 1 8 Try.underlying24 hi0 hz0 hz1 hz2 rfl (by decide) _ _ _ rfl (own4'.out.alloc _) ⟨w4.heap.size, 0, none⟩ 1 1 [.int .i64 y] rfl rfl ?c1 ?c2 ?c3 ?c4 ?c5 ?_)
        case c1 =>
          intro j u hj
          match j, hj with
          | 0, hj => simp at hj; subst hj; simp [Addr.add]
        case c2 => intro u hu; simp at hu; subst hu; rfl
        case c3 => unfold maxLen; omega
        case c4 => omega
        case c5 => simp; omega
        intro v' w5 own5 hgrow _
        have bel5 : Below w.heap.size w4 w5 := ((Below.refl _ _).alloc s4 _).grown hgrow (by simp; omega) (fun q hq => (own4'.out.lt q hq).1)
        have own5' := Lib.hid own5
        have c5 := Lib.hid (c4'.out.below (bel5.mono hB))
        have g5 := Lib.hid (g4'.out.trans (Grew.of_below bel5))
        clear own5 hgrow own4' c4' g4' bel5
        go_wp2_with fail
        go_roundw
        case rel =>
          refine ⟨k - 1, xs ++ [y], ?_, by simp; omega, ?_, Lib.hid (c5.out.more (by omega)), g5⟩
          · rw [show ((k - 1 : Nat) : Int) = (k : Int) - 1 by omega]
          · have := own5'.out
            exact Lib.hid (by simpa using this)
        case measure => simp [intOf]; omega
      · have hk0 : k = 0 := by omega
        subst hk0
        obtain ⟨A5, c5, rfl, o5⟩ := OwnAt.of_owns ho.out
        have o5' := Lib.hid o5
        have hcap := nums_cap ho.out
        obtain ⟨N, hN⟩ : ∃ N, Hid (xs.length = N) := ⟨_, Lib.hid rfl⟩
        rw [hN.out] at o5' hk hcap ⊢
        clear o5 ho
        by_cases hN0 : 0 < N
        · have hq : decide (0 < N) = true := decide_eq_true hN0
          go_wp2_with fail
          refine (one_any g B _ 20 wr hcu.out (by omega) (by decide)).mono ?_
          rintro e w6 ⟨b6, rfl, c6, on6⟩
          have o6 := Lib.hid (o5'.out.only on6 (fun ad ad' e e' => by cases e'; have := (o5'.out.low ad e).1; show ad.block ≠ g; omega))
          have g6 := Lib.hid (hgr.out.trans (Grew.of_only on6))
          have s6 := g6.out.size
          have c6' := Lib.hid c6
          clear on6 c6
          cases b6
          · go_wp2_with fail
            go_ret
            exact ⟨A5, N, c5, xs, rfl, o6.out, by omega, hcap, c6'.out.more (by omega), g6.out⟩
          · obtain ⟨gr, mr, f, rfl, hmr, hrow, hf⟩ := o6.out.own hN0
            have hgrl := o6.out.low _ rfl
            have hgr1 : w.heap.size ≤ gr := hgrl.1
            have hgr2 : gr < w6.heap.size := hgrl.2
            have bel7 : Below w6.heap.size w6 (w6.alloc (.cells #[.int .i64 (-1), .int .i64 100000, .int .i64 100001] 3)) := (Below.refl _ w6).alloc (Nat.le_refl _) _
            have g7 := Lib.hid (g6.out.trans (Grew.of_below (bel7.mono s6) (g := g)))
            have hrow7 := Lib.hid (rowIs_below hrow bel7 hgr2)
            have hf' := Lib.hid hf
            have hcall := Lib.hid (among_any g B (lim + 6 + 2 * (61 - 0) + 2) 3 3 _ _ [-1, 100000, 100001] _ (c6'.out.below (bel7.mono (Nat.le_trans hB s6))) (by omega) (nums_three w6 (-1) 100000 100001 3) (by decide) (by decide) (fun ad e => by cases e; show w6.heap.size ≠ g; omega))
            clear bel7 hrow hf hgrl
            go_wp2_with fail
            refine hcall.out.mono ?_
            rintro e w7 ⟨k7, hk7, rfl, c7, o7⟩
            have r7 := hrow7.out.of_block (w' := w7) (o7.block gr (fun ad e => by cases e; show gr ≠ g; omega))
            have d7 := r7.cell (i := 0) (by omega)
            have f7 := r7.frozen 0
            have r7' := Lib.hid r7; have g8 := Lib.hid (g7.out.trans (Grew.of_only o7)); have c7' := Lib.hid c7
            have s7 := g8.out.size
            generalize ([-1, 100000, 100001] : List Int)[k7]?.getD 0 = z
            clear r7 o7 c7
            go_wp2_with fail
            go_ret
            have b9 : Below w.heap.size w7 (w7.setCell ⟨gr, 0, none⟩ (.int .i64 z)) := (Below.refl _ w7).setCell (by exact hgr1) _
            refine ⟨_, N, c5, xs.set 0 z, rfl, ⟨by simp; exact hN.out, fun _ => ⟨gr, mr, _, rfl, hmr, r7'.out.set 0 _, fun i hi => ?_⟩, fun ad e => by cases e; exact ⟨hgr1, by have := r7'.out.lt; simpa [World.setCell] using this⟩⟩, by omega, hcap, (c7'.out.below (b9.mono hB)).more (by omega), g8.out.trans (Grew.of_below b9)⟩
            by_cases e : i = 0
            · subst e
              simp only [if_true]
              rw [List.getElem?_set_self (by rw [hN.out]; exact hi)]; rfl
            · simp only [e, if_false]
              rw [List.getElem?_set_ne (fun h => e h.symm)]; exact hf'.out i hi
        · have hN1 : N = 0 := by omega
          have hq : decide (0 < N) = false := decide_eq_false hN0
          go_wp2_with fail
          go_ret
          exact ⟨A5, N, c5, xs, rfl, o5'.out, by omega, hcap, hcu.out.more (by omega), hgr.out⟩
end Go.Proofs.Ythiegfbdmmpabab
