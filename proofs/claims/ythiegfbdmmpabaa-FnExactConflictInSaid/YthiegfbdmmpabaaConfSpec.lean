/- What is proved here: what the model's ConflictIn returns. No conditions but lengths. -/
import Derived.Test.YthiegfbdmmpabaaHighSpec
namespace Go.Proofs.Ythiegfbdmmpabaa
open Go.RowKit

theorem fin_rise {ts : List Blk} {ss : List Int} {vs : List Vt} {F : List Int} (hF : finlL ts ss vs = F) {i j : Nat} (hij : i < j) (hj : j < F.length) : F[i]?.getD 0 < F[j]?.getD 0 := by
  have h := List.pairwise_iff_getElem.1 (show F.Pairwise (· < ·) by rw [← hF]; exact finlL_sorted ts ss vs) i j (by omega) hj hij
  rw [List.getElem?_eq_getElem hj, List.getElem?_eq_getElem (show i < F.length by omega)]
  exact h
theorem ret_three {a b a' b' : Int} {c c' : Bool} (h1 : a = a') (h2 : b = b') (h3 : c = c') : Ending.returned (.tuple #[.int .i64 a, .int .i64 b, .bool c]) = .returned (.tuple #[.int .i64 a', .int .i64 b', .bool c']) := by rw [h1, h2, h3]

set_option maxRecDepth 100000 in
set_option maxHeartbeats 3200000 in
theorem specConflict_any (A : Option Addr) (n c : Nat) (ts : List Blk) (A' : Option Addr) (n' c' : Nat) (ss : List Int) (V : Option Addr) (m d : Nat) (vs : List Vt) (w : World) (h : BlksAt w w.heap.size A n ts) (h' : IntsAt w w.heap.size A' n' ss) (hv : VotesAt w w.heap.size V m vs) (hn : n ≤ 1048576) (hn' : n' ≤ 1048576) (hm : m ≤ 1048576) :
    Calls Try.prog 38 #[.slice A n c, .slice A' n' c', .slice V m d] w (UpPost w (.tuple #[.int .i64 (confA ts ss vs), .int .i64 (confB ts ss vs), .bool (confOK ts ss vs)])) := by
  have hgl := Lib.hid (specGoodLinks_any A n c ts A' n' c' ss V m d vs w h h' hv hn hn' hm)
  have hh := Lib.hid h; have hh' := Lib.hid h'; have hvv := Lib.hid hv
  clear h h' hv
  cases g : linksOk ts ss vs
  · have hq := Lib.hid (show confF ts ss vs = none by unfold confF; rw [g]; rfl)
    rw [g] at hgl
    go_enter Try.func38, Try.ntmps38
    go_wp2_with (go_at_call 16; refine hgl.out.mono ?_; rintro e w1 ⟨rfl, b1⟩; have u1 := Lib.hid b1; clear b1)
    go_ret3
    exact ⟨ret_three (by unfold confA; rw [hq.out]; rfl) (by unfold confB; rw [hq.out]; rfl) (by unfold confOK; rw [hq.out]; rfl), u1.out⟩
  · have ht := (linksOk_iff.1 g).1.1.1
    have hok := Lib.hid g
    have ht' := Lib.hid ht
    obtain ⟨F, hF⟩ : ∃ F, finlL ts ss vs = F := ⟨_, rfl⟩
    have hq := Lib.hid (show confF ts ss vs = confL ts F by unfold confF; rw [g, if_pos rfl, hF])
    have hjl := Lib.hid (finlL_len (ss := ss) (ls := vs) ht)
    have hji := Lib.hid (finlL_in (ss := ss) (ls := vs) ht)
    have hri := Lib.hid (fun (i j : Nat) (hij : i < j) (hj : j < F.length) => fin_rise hF hij hj)
    rw [hF] at hjl hji
    have hF' := Lib.hid hF
    rw [g] at hgl
    clear g ht hF
    go_enter Try.func38, Try.ntmps38
    go_wp2_with (first
      | (go_at_call 16; refine hgl.out.mono ?_; rintro e w1 ⟨rfl, b1⟩; have u1 := Lib.hid b1; clear b1)
      | (go_at_call 96; refine (l10FinalC_any A n c ts A' n' c' ss V m d vs _ hok.out (hh.out.up u1.out) (hh'.out.up' u1.out) (hvv.out.up u1.out)).mono ?_; rintro e w2 ⟨AJ, L, cJ, rfl, o2, hcp, b2⟩; rw [hF'.out] at o2; have hLn : L ≤ 24 := by { have := o2.len; have := hjl.out; omega }; have hL' := Lib.hid o2.len; have iJ := Lib.hid o2.ints; have hcap := Lib.hid hcp; clear hcp; have u2 := Lib.hid (u1.out.trans (b2.mono u1.out.size)); clear o2 b2))
    go_loopw [10, 11, 13, 25, 35] (fun _ _ _ i _ wr => ∃ k : Nat, k ≤ L ∧ i = .int .i64 k ∧ Hid (∀ q, q < k → rowC ts F q = none) ∧ Hid (Below w2.heap.size w2 wr)) (fun _ _ _ i _ _ => L - (intOf i).toNat)
    case atStart => exact ⟨0, Nat.zero_le _, rfl, Lib.hid (fun _ h => absurd h (Nat.not_lt_zero _)), Lib.hid (Below.refl _ _)⟩
    case round =>
      obtain ⟨k, hk, rfl, hno, hbel⟩ := hrel
      by_cases hlt : k < L
      · obtain ⟨lb, lo, rfl, hlb, _⟩ := iJ.out.2 k hlt
        have hcs : ∀ j, j < L → w2.cell? ⟨lb, lo + j, none⟩ = some (.int .i64 (F[j]?.getD 0)) := fun j hj => by
          obtain ⟨b', o', e, _, q⟩ := iJ.out.2 j hj
          cases e; exact q
        have hcs' := Lib.hid hcs
        have hc := (hbel.out.cell (p := ⟨lb, lo + k, none⟩) hlb).trans (hcs k hlt)
        obtain ⟨a, hx, hat⟩ := getI_in hji.out (k := k) (by rw [hL'.out]; exact hlt)
        rw [hx] at hc
        have hx' := Lib.hid hx; have hat' := Lib.hid hat
        have hcL : L ≤ cJ := hcap.out.1
        have hcM : cJ ≤ 9223372036854775807 := by have := hcap.out.2; unfold maxLen at this; omega
        have hkI : (k : Int) + 1 ≤ (cJ : Int) := by omega
        have hkI2 : (k : Int) + 1 ≤ (L : Int) := by omega
        clear hcs hx hat
        have hrow0 := Lib.hid (fun (hq : ∀ q, k < q → q < L → abv ts a (F[q]?.getD 0).toNat = true) => show rowC ts F k = none from rowC_none (fun j h1 h2 => by rw [hx'.out, Int.toNat_natCast]; exact hq j h1 (by rw [← hL'.out]; exact h2)))
        have hnext := Lib.hid (fun (hq : ∀ q, k < q → q < L → abv ts a (F[q]?.getD 0).toNat = true) => show ∀ q, q < k + 1 → rowC ts F q = none from fun q h1 => by
          by_cases e : q = k
          · subst e; exact hrow0.out hq
          · exact hno.out q (by omega))
        by_cases hce : cJ = k + 1
        · have hLk : L = k + 1 := by omega
          have hnx := Lib.hid (hnext.out (fun q h1 h2 => absurd h2 (by omega)))
          go_wp2_with fail
          go_loopw [13, 35] (fun _ i wq => i = .int .i64 0 ∧ Hid (Below w2.heap.size w2 wq)) (fun _ _ _ => 0)
          case atStart => exact ⟨rfl, hbel⟩
          case round =>
            obtain ⟨rfl, hbq⟩ := hrel
            have hzz : ¬ (0 : Int) < ((L - (k + 1) : Nat) : Int) := by omega
            go_wp2_with fail
            go_roundw
            case rel => exact ⟨k + 1, by omega, by go_num, hnx, hbq⟩
            case measure => simp [intOf]; omega
        · go_wp2_with fail
          go_loopw [13, 35] (fun _ i wq => ∃ j : Nat, j ≤ L - (k + 1) ∧ i = .int .i64 j ∧ Hid (∀ q, k < q → q < k + 1 + j → abv ts a (F[q]?.getD 0).toNat = true) ∧ Hid (Below w2.heap.size w2 wq)) (fun _ i _ => L - (k + 1) - (intOf i).toNat)
          case atStart => exact ⟨0, Nat.zero_le _, rfl, Lib.hid (fun q h1 h2 => absurd h2 (by omega)), hbel⟩
          case round =>
            obtain ⟨j, hj, rfl, hyes, hbq⟩ := hrel
            have u3 := Lib.hid (u2.out.trans (hbq.out.mono u2.out.size))
            by_cases hjl2 : j < L - (k + 1)
            · have hjI : (j : Int) < ((L - (k + 1) : Nat) : Int) := by omega
              have hc2 : wr.cell? ⟨lb, lo + (k + 1) + j, none⟩ = some (.int .i64 (F[k + 1 + j]?.getD 0)) := by
                rw [show lo + (k + 1) + j = lo + (k + 1 + j) by omega]
                exact (hbq.out.cell (p := ⟨lb, lo + (k + 1 + j), none⟩) hlb).trans (hcs'.out (k + 1 + j) (by omega))
              obtain ⟨b, hy, hbt⟩ := getI_in hji.out (k := k + 1 + j) (by rw [hL'.out]; omega)
              have hab : a < b := by
                have h9 := hri.out k (k + 1 + j) (by omega) (by rw [hL'.out]; omega)
                rw [hx'.out, hy] at h9; omega
              rw [hy] at hc2
              have hl1 := Lib.hid (l3Above_any A n c ts a b wr (hh.out.up u3.out) hn ht'.out hbt)
              have hlat := Lib.hid (abv_later ht'.out hat'.out hab)
              have hy' := Lib.hid hy
              clear hy hbt hab
              cases gv : abv ts a b
              · rw [gv] at hl1
                have hsome := Lib.hid (show confF ts ss vs = some ((a : Int), (b : Int)) by
                  have h8 := rowC_some (ts := ts) (F := F) (i := k) (j := k + 1 + j) (by omega) (by rw [hL'.out]; omega) (fun q h1 h2 => by rw [hx'.out, Int.toNat_natCast]; exact hyes.out q h1 h2) (by rw [hx'.out, hy'.out, Int.toNat_natCast, Int.toNat_natCast]; exact gv)
                  rw [hq.out, confL_some (i := k) (by rw [hL'.out]; exact hlt) hno.out h8, hx'.out, hy'.out])
                clear gv
                have tk0 : True := trivial
                go_wp2_with (first
                  | (clear tk0; go_at_call 107; refine hl1.out.mono ?_; rintro e w4 ⟨rfl, b4⟩; have u4 := Lib.hid (u3.out.trans (b4.mono u3.out.size)); clear b4; have tk1 : True := trivial)
                  | (clear tk1; go_at_call 107; refine (l3Above_any A n c ts b a w4 (hh.out.up u4.out) hn ht'.out hat'.out).mono ?_; rintro e w5 ⟨rfl, b5⟩; rw [hlat.out]; have u5 := Lib.hid (u4.out.trans (b5.mono u4.out.size)); clear b5))
                go_ret3
                exact ⟨ret_three (by unfold confA; rw [hsome.out]; rfl) (by unfold confB; rw [hsome.out]; rfl) (by unfold confOK; rw [hsome.out]; rfl), u5.out⟩
              · rw [gv] at hl1
                have hyn := Lib.hid (show ∀ q, k < q → q < k + 1 + (j + 1) → abv ts a (F[q]?.getD 0).toNat = true from fun q h1 h2 => by
                  by_cases e : q = k + 1 + j
                  · rw [e, hy'.out, Int.toNat_natCast]; exact gv
                  · exact hyes.out q h1 (by omega))
                clear gv
                go_wp2_with (go_at_call 107; refine hl1.out.mono ?_; rintro e w4 ⟨rfl, b4⟩; have v4 := Lib.hid (hbq.out.trans (b4.mono hbq.out.size)); clear b4)
                go_roundw
                case rel => exact ⟨j + 1, by omega, by go_num, hyn, v4⟩
                case measure => simp [intOf]; omega
            · have hjI : ¬ (j : Int) < ((L - (k + 1) : Nat) : Int) := by omega
              have hnx := Lib.hid (hnext.out (fun q h1 h2 => hyes.out q h1 (by omega)))
              go_wp2_with fail
              go_roundw
              case rel => exact ⟨k + 1, by omega, by go_num, hnx, hbq⟩
              case measure => simp [intOf]; omega
      · have hz := Lib.hid (show confF ts ss vs = none by rw [hq.out, confL_none (fun i hi => hno.out i (by have := hL'.out; omega))])
        have u3 := Lib.hid (u2.out.trans (hbel.out.mono u2.out.size))
        go_wp2_with fail
        go_ret3
        exact ⟨ret_three (by unfold confA; rw [hz.out]; rfl) (by unfold confB; rw [hz.out]; rfl) (by unfold confOK; rw [hz.out]; rfl), u3.out⟩
end Go.Proofs.Ythiegfbdmmpabaa
