/- What is proved here: what the model's functions on Fenwick trees return, at every list of cells. No conditions but the cells' number. -/
import Derived.Test.YtbhogcecjmlomaaFenFns
import Derived.Test.YtbhogcecjmlomaaStakes
import Derived.Deep.AppendLies
namespace Go.Proofs.Ytbhogcecjmlomaa
open Go.RowKit

/-- All sums from the front are small. -/
def SmallSums (xs : List Int) : Prop := ∀ k, k ≤ xs.length → -1000000000000 ≤ sumL (xs.take k) ∧ sumL (xs.take k) ≤ 1000000000000
set_option maxHeartbeats 400000 in
theorem l1SumZ_any (A : Option Addr) (n c B : Nat) (xs : List Int) (w : World) (h : IntsAt w B A n xs) (hn : n ≤ 1048576) (hb : SmallSums xs) :
    Calls Try.prog 118 #[.slice A n c] w fun e w' => e = .returned (.int .i64 (sumL xs)) ∧ w = w' := by
  have hl' := Lib.hid h.1
  have hr := Lib.hid h; clear h
  have hb' := Lib.hid hb; clear hb
  go_enter Try.func118, Try.ntmps118
  go_wp2
  go_loop [3, 8] (fun s i => ∃ k : Nat, k ≤ n ∧ i = .int .i64 k ∧ s = .int .i64 (sumL (xs.take k))) (fun _ i => n - (intOf i).toNat)
  case atStart => exact ⟨0, Nat.zero_le _, rfl, rfl⟩
  case round =>
    obtain ⟨k, hk, rfl, rfl⟩ := hrel
    by_cases hlt : k < n
    · obtain ⟨b, off, rfl, _, hc⟩ := hr.out.2 k hlt
      have hs := Lib.hid (sumL_step (s := xs) (k := k) (by rw [hl'.out]; exact hlt))
      obtain ⟨g1, g2⟩ := hb'.out k (by rw [hl'.out]; exact hk)
      obtain ⟨g3, g4⟩ := hb'.out (k + 1) (by rw [hl'.out]; exact hlt)
      rw [hs.out] at g3 g4
      go_wp2
      go_round
      case rel => exact ⟨k + 1, by omega, by go_num, by rw [hs.out]⟩
      case measure => simp [intOf]; omega
    · go_wp2
      go_ret
      exact ⟨ret_int (sumL_end (by rw [hl'.out]; omega)), rfl⟩

theorem l5List_any (A : Option Addr) (n c B : Nat) (xs : List Int) (w : World) (h : IntsAt w B A n xs) (hn : n ≤ 1048576) :
    Calls Try.prog 109 #[.slice A n c] w fun e w' => e = .returned (.bool (goodW xs)) ∧ w = w' := by
  have hl' := Lib.hid h.1
  have hr := Lib.hid h; clear h
  cases hx : inB (n : Int) 1 32
  · have hg := Lib.hid (show goodW xs = false by unfold goodW; rw [hl'.out, hx]; rfl)
    go_enter Try.func109, Try.ntmps109
    go_wp2_with (go_at_call 87; refine (l1In_any _ _ _ _).mono ?_; rintro e w' ⟨rfl, rfl⟩)
    go_ret
    exact ⟨ret_bool hg.out.symm, rfl⟩
  · have hg := Lib.hid (show goodW xs = allB xs 0 100000 by unfold goodW; rw [hl'.out, hx]; rfl)
    go_enter Try.func109, Try.ntmps109
    go_wp2_with (first
      | (go_at_call 87; refine (l1In_any _ _ _ _).mono ?_; rintro e w' ⟨rfl, rfl⟩)
      | (go_at_call 134; refine (l1All_any _ _ _ B xs _ _ _ hr.out hn).mono ?_; rintro e w' ⟨rfl, rfl⟩))
    go_ret
    exact ⟨ret_bool hg.out.symm, rfl⟩

theorem IntsAt.part {w : World} {B n : Nat} {b off : Nat} {xs : List Int} (h : IntsAt w B (some ⟨b, off, none⟩) n xs) {i j : Nat} (hi : i ≤ j) (hj : j ≤ n) : IntsAt w B (some ⟨b, off + i, none⟩) (j - i) ((xs.take j).drop i) :=
  ⟨by rw [List.length_drop, List.length_take, h.1]; omega, fun k hk => by
    obtain ⟨b', off', e, hb, hc⟩ := h.2 (i + k) (by omega)
    cases e
    refine ⟨b, off + i, rfl, hb, ?_⟩
    rw [Nat.add_assoc, hc, List.getElem?_drop, List.getElem?_take_of_lt (by omega)]⟩
theorem sums_part (xs : List Int) {lo hi : Int} (i j : Nat) (hij : i ≤ j) (hj : j ≤ xs.length) (h : ∀ k, k ≤ xs.length → lo ≤ sumL (xs.take k) ∧ sumL (xs.take k) ≤ hi) : ∀ k, k ≤ j - i → lo - hi ≤ sumL (((xs.take j).drop i).take k) ∧ sumL (((xs.take j).drop i).take k) ≤ hi - lo := fun k hk => by
  have e : ((xs.take j).drop i).take k = (xs.take (i + k)).drop i := by
    rw [List.take_drop, List.take_take, Nat.min_eq_left (by omega)]
  rw [e, sum_part xs (by omega)]
  have h1 := h (i + k) (by omega)
  have h2 := h i (by omega)
  omega

/-- A slice of the call's own, with its room. -/
def RetOwnC (w : World) (b : Bool) (xs : List Int) (e : Ending) (w' : World) : Prop :=
  ∃ A n c, e = .returned (.tuple #[.slice A n c, .bool b]) ∧ OwnAt w' w.heap.size A n xs ∧ Below w.heap.size w w' ∧ n ≤ c ∧ c ≤ maxLen
/-- What l5Back returns. -/
def backR (xs : List Int) : List Int := if goodM xs = true then wts xs else []
def wtsTo (c : List Int) (k : Nat) : List Int := (List.range k).map (wt c)
theorem wtsTo_len (c : List Int) (k : Nat) : (wtsTo c k).length = k := by simp [wtsTo]
theorem wtsTo_step (c : List Int) (k : Nat) : wtsTo c (k + 1) = wtsTo c k ++ [wt c k] := by simp [wtsTo, List.range_succ]
theorem wtsTo_sum (c : List Int) (k : Nat) : ∀ j, j ≤ k → sumL ((wtsTo c k).take j) = fs c j
  | 0, _ => by rw [fs_zero]; rfl
  | j + 1, h => by
    rw [sumL_step (by rw [wtsTo_len]; omega), wtsTo_sum c k j (by omega)]
    have : (wtsTo c k)[j]?.getD 0 = wt c j := by simp [wtsTo, show j < k by omega]
    rw [this]; unfold wt; omega

theorem sumPart_any (A : Option Addr) (n c B : Nat) (ys : List Int) (w : World) (h : IntsAt w B A n ys) (hn : n ≤ 1048576) (hb : ∀ k, k ≤ n → -1000000000 ≤ sumL (ys.take k) ∧ sumL (ys.take k) ≤ 1000000000) :
    Calls Try.prog 118 #[.slice A n c] w fun e w' => ∃ s : Int, e = .returned (.int .i64 s) ∧ Hid (s = sumL ys) ∧ -1000000000 ≤ s ∧ s ≤ 1000000000 ∧ w = w' := by
  have hb2 : SmallSums ys := fun k hk => by have := hb k (by rw [← h.1]; exact hk); omega
  have h2 := hb n (Nat.le_refl _)
  rw [List.take_of_length_le (by rw [h.1]; exact Nat.le_refl _)] at h2
  refine (l1SumZ_any A n c B ys w h hn hb2).mono ?_
  rintro e w' ⟨rfl, rfl⟩
  exact ⟨_, rfl, Lib.hid rfl, h2.1, h2.2, rfl⟩
theorem and_low' (k : Nat) (h : k ≤ 63) : bits .and .i64 ((k : Int) + 1) (-((k : Int) + 1)) = ((low (k + 1) : Nat) : Int) := by
  have := and_low (k + 1) (by omega)
  exact this
theorem wt_eq {xs : List Int} {k L lo : Nat} (hL : low (k + 1) = L) (h : k + 1 = lo + L) (hk : k ≤ 60) {s : Int} (hs : s = fs xs k - fs xs lo) : xs[k]?.getD 0 - s = wt xs k := by
  have h1 := fs_step xs (n := k + 1) (by omega) (by omega)
  rw [Nat.add_sub_cancel, hL, show k + 1 - L = lo by omega] at h1
  unfold wt; omega

set_option maxRecDepth 100000 in
set_option maxHeartbeats 1600000 in
theorem l5BackC_any (A : Option Addr) (n c : Nat) (xs : List Int) (w : World) (h : IntsAt w w.heap.size A n xs) (hn : n ≤ 1048576) :
    Calls Try.prog 116 #[.agg #[.slice A n c]] w (RetOwnC w (goodM xs) (backR xs)) := by
  have hl := Lib.hid h.1
  have hr := Lib.hid h; clear h
  by_cases h1 : inB (n : Int) 1 32 = true
  · by_cases h2 : allB xs 0 3200000 = true
    · have hn32 : n ≤ 32 := by have := inB_iff.1 h1; omega
      have hx := Lib.hid (fun k (hk : k < n) => allB_get h2 (k := k) (by rw [hl.out]; exact hk))
      have hfs := Lib.hid (show ∀ j, j ≤ n → 0 ≤ fs xs j ∧ fs xs j ≤ 3200000 * j from fun j hj => fs_bd (c := xs) (by rw [hl.out]; exact hn32) (fun k hk => allB_get h2 hk) j (by rw [hl.out]; exact hj))
      have hgo := Lib.hid (show goodM xs = goodW (wts xs) by unfold goodM goodW; rw [wts_len, hl.out, h1, h2]; rfl)
      obtain ⟨i0, hi0, hz0, hz1, hz2⟩ := info_parts info3
      go_enter Try.func116, Try.ntmps116
      go_wp2_with (first
        | (go_at_call 87; refine (l1In_any _ _ _ _).mono ?_; rintro e w' ⟨rfl, rfl⟩)
        | (go_at_call 134; refine (l1All_any _ _ _ w.heap.size xs _ _ _ (hr.out.below (box_below w _)) hn).mono ?_; rintro e w' ⟨rfl, rfl⟩))
      go_loopw [4, 23] (fun v i wr => ∃ k : Nat, k ≤ n ∧ i = .int .i64 k ∧ (k = 0 → v = .slice none 0 0) ∧ wr.ownsRow w.heap.size 3 1 v k ((wtsTo xs k).map (Value.int .i64)) ∧ Below w.heap.size w wr) (fun _ i _ => n - (intOf i).toNat)
      case atStart => exact ⟨0, Nat.zero_le _, rfl, fun _ => rfl, World.ownsRow_nil _ _ _ _, box_below w _⟩
      case round =>
        obtain ⟨k, hk, rfl, hnil, hown, hbl⟩ := hrel
        have hbl' := Lib.hid hbl
        have hsz := hbl.size
        clear hbl
        by_cases hlt : k < n
        · obtain ⟨b, off, rfl, hb, hc0⟩ := hr.out.2 k hlt
          have hc := (hbl'.out.cell (p := ⟨b, off + k, none⟩) hb).trans hc0
          obtain ⟨x0, x1⟩ := hx.out k hlt
          clear hc0
          by_cases hk0 : k = 0
          · have hv := Lib.hid (fun (s : Int) (hs : s = sumL []) => wt_eq (xs := xs) (k := 0) (L := 1) (lo := 0) (by decide) rfl (by omega) (s := s) (by rw [hs]; simp [sumL]))
            have ha : bits .and .i64 1 (-1) = 1 := by decide +kernel
            subst hk0
            have hvn := hnil rfl
            subst hvn
            have hown' := Lib.hid hown
            rw [Nat.add_zero] at hc
            clear hnil hown
            go_wp2_with fail
            refine (sumPart_any none 0 0 wr.heap.size [] _ IntsAt.none_ (by omega) (fun j _ => by simp [sumL])).mono ?_
            rintro e w1 ⟨s, rfl, hs, s0, s1, rfl⟩
            go_wp2_with (at_builtin; refine wpList_append_own _ rfl _ _ 31 rfl w.heap.size 3 i0 (.int .i64 0) 1 8 Try.underlying31 hi0 hz0 hz1 hz2 rfl (by decide) _ _ _ rfl (hown'.out.alloc _) ⟨wr.heap.size, 0, none⟩ 1 1 [.int .i64 (xs[0]?.getD 0 - s)] rfl rfl ?c1 ?c2 ?c3 ?c4 ?c5 ?_)
            case c1 =>
              intro j u hj
              match j, hj with
              | 0, hj => simp at hj; subst hj; simp [Addr.add]
            case c2 => intro u hu; simp at hu; subst hu; rfl
            case c3 => unfold maxLen; omega
            case c4 => omega
            case c5 => simp; omega
            intro v' w2 own2 hgrow _
            have bel2 := Lib.hid (hbl'.out.trans (((Below.refl w.heap.size wr).alloc hsz _).grown hgrow (by simp; omega) (fun q hq => (hown'.out.lt q hq).1)))
            have own2' := Lib.hid own2
            clear own2 hgrow
            go_wp2_with fail
            go_roundw
            case rel =>
              refine ⟨0 + 1, by omega, by go_num, fun e => absurd e (by omega), ?_, bel2.out⟩
              have := own2'.out
              rw [hv.out s hs.out] at this
              rw [wtsTo_step, List.map_append]
              exact this
            case measure => simp [intOf]; omega
          · obtain ⟨g, cap, rfl, hg1, hg2⟩ := hown.form (by omega)
            obtain ⟨hcap1, hcap2⟩ := owns_cap' hown _ _ _ rfl
            obtain ⟨A1, c1', e1, oa⟩ := OwnAt.of_owns hown
            have hown' := Lib.hid hown
            clear hown hnil
            unfold maxLen at hcap2
            have p1 := low_pos (n := k + 1) (by omega) (by omega)
            have p2 := low_le (n := k + 1) (by omega) (by omega)
            have ha := and_low' k (by omega)
            have hLh := Lib.hid (show low (k + 1) = low (k + 1) from rfl)
            obtain ⟨L, hL⟩ : ∃ L, Hid (low (k + 1) = L) := ⟨_, Lib.hid rfl⟩
            rw [hL.out] at p1 p2 ha
            obtain ⟨lo, hlo⟩ : ∃ lo, Hid (k + 1 = lo + L) := ⟨k + 1 - L, Lib.hid (by omega)⟩
            have hlo1 : (k : Int) + 1 - (L : Int) = (lo : Int) := by have := hlo.out; omega
            have hlok : lo ≤ k := by have := hlo.out; omega
            have hia := Lib.hid oa.ints
            by_cases hlk : lo = k
            · subst hlk
              have hv := Lib.hid (fun (s : Int) (hs : s = sumL []) => wt_eq (xs := xs) hL.out hlo.out (by omega) (s := s) (by rw [hs]; simp [sumL]))
              by_cases hce : cap = lo
              · subst hce
                go_wp2_with fail
                refine (sumPart_any _ 0 _ wr.heap.size [] _ IntsAt.none_ (by omega) (fun j _ => by simp [sumL])).mono ?_
                rintro e w1 ⟨s, rfl, hs, s0, s1, rfl⟩
                go_wp2_with (at_builtin; refine wpList_append_own _ rfl _ _ 31 rfl w.heap.size 3 i0 (.int .i64 0) 1 8 Try.underlying31 hi0 hz0 hz1 hz2 rfl (by decide) _ _ _ rfl (hown'.out.alloc _) ⟨wr.heap.size, 0, none⟩ 1 1 [.int .i64 (xs[cap]?.getD 0 - s)] rfl rfl ?c1 ?c2 ?c3 ?c4 ?c5 ?_)
                case c1 =>
                  intro j u hj
                  match j, hj with
                  | 0, hj => simp at hj; subst hj; simp [Addr.add]
                case c2 => intro u hu; simp at hu; subst hu; rfl
                case c3 => unfold maxLen; omega
                case c4 => omega
                case c5 => simp; omega
                intro v' w2 own2 hgrow _
                have bel2 := Lib.hid (hbl'.out.trans (((Below.refl w.heap.size wr).alloc hsz _).grown hgrow (by simp; omega) (fun q hq => (hown'.out.lt q hq).1)))
                have own2' := Lib.hid own2
                clear own2 hgrow
                go_wp2_with fail
                go_roundw
                case rel =>
                  refine ⟨cap + 1, by omega, by go_num, fun e => absurd e (by omega), ?_, bel2.out⟩
                  have := own2'.out
                  rw [hv.out s hs.out] at this
                  rw [wtsTo_step, List.map_append]
                  exact this
                case measure => simp [intOf]; omega
              · have hcl : lo < cap := by omega
                go_wp2_with fail
                refine (sumPart_any _ 0 _ wr.heap.size [] _ IntsAt.none_ (by omega) (fun j _ => by simp [sumL])).mono ?_
                rintro e w1 ⟨s, rfl, hs, s0, s1, rfl⟩
                go_wp2_with (at_builtin; refine wpList_append_own _ rfl _ _ 31 rfl w.heap.size 3 i0 (.int .i64 0) 1 8 Try.underlying31 hi0 hz0 hz1 hz2 rfl (by decide) _ _ _ rfl (hown'.out.alloc _) ⟨wr.heap.size, 0, none⟩ 1 1 [.int .i64 (xs[lo]?.getD 0 - s)] rfl rfl ?c1 ?c2 ?c3 ?c4 ?c5 ?_)
                case c1 =>
                  intro j u hj
                  match j, hj with
                  | 0, hj => simp at hj; subst hj; simp [Addr.add]
                case c2 => intro u hu; simp at hu; subst hu; rfl
                case c3 => unfold maxLen; omega
                case c4 => omega
                case c5 => simp; omega
                intro v' w2 own2 hgrow _
                have bel2 := Lib.hid (hbl'.out.trans (((Below.refl w.heap.size wr).alloc hsz _).grown hgrow (by simp; omega) (fun q hq => (hown'.out.lt q hq).1)))
                have own2' := Lib.hid own2
                clear own2 hgrow
                go_wp2_with fail
                go_roundw
                case rel =>
                  refine ⟨lo + 1, by omega, by go_num, fun e => absurd e (by omega), ?_, bel2.out⟩
                  have := own2'.out
                  rw [hv.out s hs.out] at this
                  rw [wtsTo_step, List.map_append]
                  exact this
                case measure => simp [intOf]; omega
            · have hlt2 : lo < k := by omega
              have hcl : lo < cap := by omega
              have hks := Lib.hid (show ∀ j, j ≤ (wtsTo xs k).length → -110000000 ≤ sumL ((wtsTo xs k).take j) ∧ sumL ((wtsTo xs k).take j) ≤ 110000000 from fun j hj => by
                rw [wtsTo_len] at hj
                rw [wtsTo_sum xs k j hj]
                have := hfs.out j (by omega)
                omega)
              have hsum := Lib.hid (show sumL (((wtsTo xs k).take k).drop lo) = fs xs k - fs xs lo by
                rw [sum_part _ (by omega), wtsTo_sum xs k k (Nat.le_refl _), wtsTo_sum xs k lo (by omega)])
              have hv := Lib.hid (fun (s : Int) (hs : s = sumL (((wtsTo xs k).take k).drop lo)) => wt_eq (xs := xs) hL.out hlo.out (by omega) (s := s) (by rw [hs, hsum.out]))
              have hpart := Lib.hid (show IntsAt wr wr.heap.size (some ⟨g, lo, none⟩) (k - lo) (((wtsTo xs k).take k).drop lo) by
                have h3 := hia.out
                injection e1 with e1 _ _
                rw [← e1] at h3
                have := h3.part (i := lo) (j := k) (by omega) (Nat.le_refl _)
                rwa [Nat.zero_add] at this)
              have hpb := Lib.hid (sums_part (wtsTo xs k) lo k (by omega) (by rw [wtsTo_len]; exact Nat.le_refl _) hks.out)
              clear e1 hia oa
              go_wp2_with fail
              refine (sumPart_any _ (k - lo) _ wr.heap.size _ _ hpart.out (by omega) (fun j hj => by have := hpb.out j hj; omega)).mono ?_
              rintro e w1 ⟨s, rfl, hs, s0, s1, rfl⟩
              go_wp2_with (at_builtin; refine wpList_append_own _ rfl _ _ 31 rfl w.heap.size 3 i0 (.int .i64 0) 1 8 Try.underlying31 hi0 hz0 hz1 hz2 rfl (by decide) _ _ _ rfl (hown'.out.alloc _) ⟨wr.heap.size, 0, none⟩ 1 1 [.int .i64 (xs[k]?.getD 0 - s)] rfl rfl ?c1 ?c2 ?c3 ?c4 ?c5 ?_)
              case c1 =>
                intro j u hj
                match j, hj with
                | 0, hj => simp at hj; subst hj; simp [Addr.add]
              case c2 => intro u hu; simp at hu; subst hu; rfl
              case c3 => unfold maxLen; omega
              case c4 => omega
              case c5 => simp; omega
              intro v' w2 own2 hgrow _
              have bel2 := Lib.hid (hbl'.out.trans (((Below.refl w.heap.size wr).alloc hsz _).grown hgrow (by simp; omega) (fun q hq => (hown'.out.lt q hq).1)))
              have own2' := Lib.hid own2
              clear own2 hgrow
              go_wp2_with fail
              go_roundw
              case rel =>
                refine ⟨k + 1, by omega, by go_num, fun e => absurd e (by omega), ?_, bel2.out⟩
                have := own2'.out
                rw [hv.out s hs.out] at this
                rw [wtsTo_step, List.map_append]
                exact this
              case measure => simp [intOf]; omega
        · have hkn : k = n := by omega
          subst hkn
          have hw := Lib.hid (show wtsTo xs k = wts xs by unfold wtsTo wts; rw [hl.out])
          rw [hw.out] at hown
          have hcap := Lib.hid (owns_cap' hown)
          obtain ⟨A1, c1', rfl, oa⟩ := OwnAt.of_owns hown
          have oa' := Lib.hid oa
          have hcp := Lib.hid (hcap.out _ _ _ rfl)
          clear hcap
          clear hown oa hnil
          cases hgw : goodW (wts xs)
          · have hR := Lib.hid (show backR xs = [] by unfold backR; rw [hgo.out, hgw]; rfl)
            have hgm := Lib.hid (hgo.out.trans hgw)
            go_wp2_with fail
            refine (l5List_any A1 k c1' wr.heap.size (wts xs) _ oa'.out.ints hn).mono ?_
            rintro e w' ⟨rfl, rfl⟩
            go_wp2_with fail
            go_ret2
            exact ⟨none, 0, 0, by rw [hgm.out]; rfl, by rw [hR.out]; exact own_nil _ _, hbl'.out, Nat.le_refl _, Nat.zero_le _⟩
          · have hR := Lib.hid (show backR xs = wts xs by unfold backR; rw [hgo.out, hgw]; rfl)
            have hgm := Lib.hid (hgo.out.trans hgw)
            go_wp2_with fail
            refine (l5List_any A1 k c1' wr.heap.size (wts xs) _ oa'.out.ints hn).mono ?_
            rintro e w' ⟨rfl, rfl⟩
            go_wp2_with fail
            go_ret2
            exact ⟨A1, k, c1', by rw [hgm.out]; rfl, by rw [hR.out]; exact oa'.out, hbl'.out, hcp.out.1, hcp.out.2⟩
    · have h2' : allB xs 0 3200000 = false := by simpa using h2
      have hgm := Lib.hid (show goodM xs = false by unfold goodM; rw [h2']; simp)
      have hR := Lib.hid (show backR xs = [] by unfold backR; rw [hgm.out]; rfl)
      clear h2
      go_enter Try.func116, Try.ntmps116
      go_wp2_with (first
        | (go_at_call 87; refine (l1In_any _ _ _ _).mono ?_; rintro e w' ⟨rfl, rfl⟩)
        | (go_at_call 134; refine (l1All_any _ _ _ w.heap.size xs _ _ _ (hr.out.below (box_below w _)) hn).mono ?_; rintro e w' ⟨rfl, rfl⟩))
      go_ret2
      exact ⟨none, 0, 0, by rw [hgm.out]; rfl, by rw [hR.out]; exact own_nil _ _, box_below w _, Nat.le_refl _, Nat.zero_le _⟩
  · have h1' : inB (n : Int) 1 32 = false := by simpa using h1
    have hgm := Lib.hid (show goodM xs = false by unfold goodM; rw [hl.out, h1']; rfl)
    have hR := Lib.hid (show backR xs = [] by unfold backR; rw [hgm.out]; rfl)
    clear h1
    go_enter Try.func116, Try.ntmps116
    go_wp2_with (go_at_call 87; refine (l1In_any _ _ _ _).mono ?_; rintro e w' ⟨rfl, rfl⟩)
    go_ret2
    exact ⟨none, 0, 0, by rw [hgm.out]; rfl, by rw [hR.out]; exact own_nil _ _, box_below w _, Nat.le_refl _, Nat.zero_le _⟩
theorem l5Back_any (A : Option Addr) (n c : Nat) (xs : List Int) (w : World) (h : IntsAt w w.heap.size A n xs) (hn : n ≤ 1048576) :
    Calls Try.prog 116 #[.agg #[.slice A n c]] w (RetOwn w (goodM xs) (backR xs)) :=
  (l5BackC_any A n c xs w h hn).mono fun _ _ ⟨A1, n1, c1, e, o, b, _, _⟩ => ⟨A1, n1, c1, e, o, b⟩
end Go.Proofs.Ytbhogcecjmlomaa
