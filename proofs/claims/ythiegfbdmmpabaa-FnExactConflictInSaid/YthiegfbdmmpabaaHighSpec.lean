/- What is proved here: what the model's HighestIn and ConflictIn return. No conditions but lengths. -/
import Derived.Test.YthiegfbdmmpabaaFinalSpec
namespace Go.Proofs.Ythiegfbdmmpabaa
open Go.RowKit

theorem hiS_in {ts : List Blk} {l : List Int} (ht : Tree ts) (hl : ∀ x ∈ l, ∃ i : Nat, x = i ∧ i < ts.length) : ∀ k, ∃ i : Nat, hiS ts l k = i ∧ i < ts.length
  | 0 => ⟨0, rfl, ht.pos⟩
  | k + 1 => by
    have ih := hiS_in ht hl k
    simp only [hiS]
    split
    · by_cases hk : k < l.length
      · exact hl _ (by rw [List.getElem?_eq_getElem hk, Option.getD_some]; exact List.getElem_mem hk)
      · rw [List.getElem?_eq_none (by omega)]; exact ⟨0, rfl, ht.pos⟩
    · exact ih
theorem getI_in {ts : List Blk} {l : List Int} (hl : ∀ x ∈ l, ∃ i : Nat, x = i ∧ i < ts.length) {k : Nat} (hk : k < l.length) : ∃ i : Nat, l[k]?.getD 0 = i ∧ i < ts.length :=
  hl _ (by rw [List.getElem?_eq_getElem hk, Option.getD_some]; exact List.getElem_mem hk)

theorem l10Depth_any (A : Option Addr) (n c : Nat) (ts : List Blk) (b : Nat) (w : World) (h : BlksAt w w.heap.size A n ts) (hn : n ≤ 1048576) (ht : Tree ts) (hb : b < ts.length) :
    Calls Try.prog 101 #[.slice A n c, .int .i64 b] w (UpPost w (.int .i64 (dep ts b))) := by
  have hwl := Lib.hid (wayV_len ht hb)
  have hd := dep_le ht hb
  have hfew := ht.few
  have hw := Lib.hid (way_ok A n c ts b w h hn ht (by rw [← h.1]; exact hb))
  clear h
  go_enter Try.func101, Try.ntmps101
  go_wp2_with fail
  refine hw.out.mono ?_
  rintro e w1 ⟨A2, n2, c2, rfl, o2, b2⟩
  have hn2 : Hid (n2 = dep ts b + 1) := Lib.hid (by rw [← o2.len, hwl.out])
  have hn3 : n2 ≤ 100 := by have := hn2.out; omega
  have u2 := Lib.hid b2
  clear o2 b2 hw
  go_wp2_with fail
  go_ret
  exact ⟨ret_int (by have := hn2.out; omega), u2.out⟩

set_option maxRecDepth 100000 in
set_option maxHeartbeats 1600000 in
theorem specHighest_any (A : Option Addr) (n c : Nat) (ts : List Blk) (A' : Option Addr) (n' c' : Nat) (ss : List Int) (V : Option Addr) (m d : Nat) (vs : List Vt) (w : World) (h : BlksAt w w.heap.size A n ts) (h' : IntsAt w w.heap.size A' n' ss) (hv : VotesAt w w.heap.size V m vs) (hn : n ≤ 1048576) (hn' : n' ≤ 1048576) (hm : m ≤ 1048576) :
    Calls Try.prog 36 #[.slice A n c, .slice A' n' c', .slice V m d] w (UpPost w (.tuple #[.int .i64 (highR ts ss vs), .bool (linksOk ts ss vs)])) := by
  have hgl := Lib.hid (specGoodLinks_any A n c ts A' n' c' ss V m d vs w h h' hv hn hn' hm)
  have hh := Lib.hid h; have hh' := Lib.hid h'; have hvv := Lib.hid hv
  clear h h' hv
  cases g : linksOk ts ss vs
  · have hr := Lib.hid (show highR ts ss vs = 0 by unfold highR; rw [g]; rfl)
    rw [g] at hgl
    rw [hr.out]
    go_enter Try.func36, Try.ntmps36
    go_wp2_with (go_at_call 16; refine hgl.out.mono ?_; rintro e w1 ⟨rfl, b1⟩; have u1 := Lib.hid b1; clear b1)
    go_ret2
    exact ⟨rfl, u1.out⟩
  · have ht := (linksOk_iff.1 g).1.1.1
    have hok := Lib.hid g
    have ht' := Lib.hid ht
    obtain ⟨J, hJ⟩ : ∃ J, justL ts ss vs = J := ⟨_, rfl⟩
    have hr := Lib.hid (show highR ts ss vs = hiS ts J J.length by unfold highR; rw [g, if_pos rfl, hJ])
    have hjl := Lib.hid (justL_len (ss := ss) (ls := vs) ht)
    have hji := Lib.hid (justL_in (ss := ss) (ls := vs) ht)
    rw [hJ] at hjl hji
    have hJ' := Lib.hid hJ
    rw [g] at hgl
    rw [hr.out]
    clear g ht hJ
    go_enter Try.func36, Try.ntmps36
    go_wp2_with (first
      | (go_at_call 16; refine hgl.out.mono ?_; rintro e w1 ⟨rfl, b1⟩; have u1 := Lib.hid b1; clear b1)
      | (go_at_call 94; refine (l10Just_any A n c ts A' n' c' ss V m d vs _ hok.out (hh.out.up u1.out) (hh'.out.up' u1.out) (hvv.out.up u1.out)).mono ?_; rintro e w2 ⟨AJ, L, cJ, rfl, o2, b2⟩; rw [hJ'.out] at o2; have hLn : L ≤ 24 := by { have := o2.len; have := hjl.out.2; omega }; have hL' := Lib.hid o2.len; have iJ := Lib.hid o2.ints; have u2 := Lib.hid (u1.out.trans (b2.mono u1.out.size)); clear o2 b2))
    go_loopw [8, 10, 21] (fun o _ i wr => ∃ k : Nat, k ≤ L ∧ i = .int .i64 k ∧ o = .int .i64 (hiS ts J k) ∧ Hid (Below w2.heap.size w2 wr)) (fun _ _ i _ => L - (intOf i).toNat)
    case atStart => exact ⟨0, Nat.zero_le _, rfl, rfl, Lib.hid (Below.refl _ _)⟩
    case round =>
      obtain ⟨k, hk, rfl, rfl, hbel⟩ := hrel
      have u3 := Lib.hid (u2.out.trans (hbel.out.mono u2.out.size))
      by_cases hlt : k < L
      · obtain ⟨lb, lo, rfl, hlb, hc0⟩ := iJ.out.2 k hlt
        have hc := (hbel.out.cell (p := ⟨lb, lo + k, none⟩) hlb).trans hc0
        obtain ⟨b, hx, hbt⟩ := getI_in hji.out (k := k) (by rw [hL'.out]; exact hlt)
        obtain ⟨q, hq, hqt⟩ := hiS_in ht'.out hji.out k
        have hst := Lib.hid (show hiS ts J (k + 1) = if dep ts q ≤ dep ts b then (b : Int) else (q : Int) by simp only [hiS]; rw [hx, hq]; rfl)
        rw [hx] at hc
        rw [hq]
        have hdb := dep_le ht'.out hbt
        have hdq := dep_le ht'.out hqt
        have hfew := ht'.out.few
        have hbt' := Lib.hid hbt; have hqt' := Lib.hid hqt
        clear hc0 hx hq hbt hqt
        have tk0 : True := trivial
        by_cases hle : dep ts q ≤ dep ts b
        · have hnx := Lib.hid (show hiS ts J (k + 1) = (b : Int) by rw [hst.out, if_pos hle])
          go_wp2_with (first
            | (clear tk0; go_at_call 101; refine (l10Depth_any A n c ts b _ (hh.out.up u3.out) hn ht'.out hbt'.out).mono ?_; rintro e w4 ⟨rfl, b4⟩; have u4 := Lib.hid (u3.out.trans (b4.mono u3.out.size)); have v4 := Lib.hid (hbel.out.trans (b4.mono hbel.out.size)); clear b4; have tk1 : True := trivial)
            | (clear tk1; go_at_call 101; refine (l10Depth_any A n c ts q _ (hh.out.up u4.out) hn ht'.out hqt'.out).mono ?_; rintro e w5 ⟨rfl, b5⟩; have v5 := Lib.hid (v4.out.trans (b5.mono v4.out.size)); clear b5))
          go_roundw
          case rel => exact ⟨k + 1, by omega, by go_num, by rw [hnx.out], v5⟩
          case measure => simp [intOf]; omega
        · have hnx := Lib.hid (show hiS ts J (k + 1) = (q : Int) by rw [hst.out, if_neg hle])
          go_wp2_with (first
            | (clear tk0; go_at_call 101; refine (l10Depth_any A n c ts b _ (hh.out.up u3.out) hn ht'.out hbt'.out).mono ?_; rintro e w4 ⟨rfl, b4⟩; have u4 := Lib.hid (u3.out.trans (b4.mono u3.out.size)); have v4 := Lib.hid (hbel.out.trans (b4.mono hbel.out.size)); clear b4; have tk1 : True := trivial)
            | (clear tk1; go_at_call 101; refine (l10Depth_any A n c ts q _ (hh.out.up u4.out) hn ht'.out hqt'.out).mono ?_; rintro e w5 ⟨rfl, b5⟩; have v5 := Lib.hid (v4.out.trans (b5.mono v4.out.size)); clear b5))
          go_roundw
          case rel => exact ⟨k + 1, by omega, by go_num, by rw [hnx.out], v5⟩
          case measure => simp [intOf]; omega
      · have hke := Lib.hid (show k = J.length by rw [hL'.out]; omega)
        go_wp2_with fail
        go_ret2
        exact ⟨ret_two (by rw [hke.out]) rfl, u3.out⟩

/-- No pair so far. -/
theorem rowC_none {ts : List Blk} {F : List Int} {i : Nat} (h : ∀ j, i < j → j < F.length → abv ts (F[i]?.getD 0).toNat (F[j]?.getD 0).toNat = true) : rowC ts F i = none := by
  unfold rowC
  rw [List.find?_eq_none]
  intro x hx
  obtain ⟨q, hq, e⟩ := List.mem_iff_getElem.1 hx
  rw [List.length_drop] at hq
  rw [List.getElem_drop] at e
  have := h (i + 1 + q) (by omega) (by omega)
  rw [List.getElem?_eq_getElem (show i + 1 + q < F.length by omega), Option.getD_some, e] at this
  rw [this]; decide
theorem rowC_some {ts : List Blk} {F : List Int} {i j : Nat} (hij : i < j) (hj : j < F.length) (hb : ∀ q, i < q → q < j → abv ts (F[i]?.getD 0).toNat (F[q]?.getD 0).toNat = true) (h : abv ts (F[i]?.getD 0).toNat (F[j]?.getD 0).toNat = false) : rowC ts F i = some (F[j]?.getD 0) := by
  unfold rowC
  rw [List.find?_eq_some_iff_append]
  refine ⟨by rw [h]; rfl, (F.drop (i + 1)).take (j - (i + 1)), (F.drop (i + 1)).drop (j - (i + 1) + 1), ?_, fun x hx => ?_⟩
  · have hlt : j - (i + 1) < (F.drop (i + 1)).length := by rw [List.length_drop]; omega
    have e : (F.drop (i + 1))[j - (i + 1)] = F[j]?.getD 0 := by
      rw [List.getElem_drop, List.getElem?_eq_getElem hj, Option.getD_some]
      congr 1; omega
    rw [← e]
    conv => lhs; rw [← List.take_append_drop (j - (i + 1)) (F.drop (i + 1))]
    rw [List.drop_eq_getElem_cons hlt]
  · obtain ⟨q, hq, e⟩ := List.mem_iff_getElem.1 hx
    rw [List.length_take, List.length_drop] at hq
    rw [List.getElem_take, List.getElem_drop] at e
    have := hb (i + 1 + q) (by omega) (by omega)
    rw [List.getElem?_eq_getElem (show i + 1 + q < F.length by omega), Option.getD_some, e] at this
    rw [this]; rfl
theorem confL_none {ts : List Blk} {F : List Int} (h : ∀ i, i < F.length → rowC ts F i = none) : confL ts F = none := by
  unfold confL
  rw [List.findSome?_eq_none_iff]
  intro i hi
  rw [h i (List.mem_range.1 hi)]; rfl
theorem confL_some {ts : List Blk} {F : List Int} {i : Nat} {b : Int} (hi : i < F.length) (h : ∀ q, q < i → rowC ts F q = none) (hb : rowC ts F i = some b) : confL ts F = some (F[i]?.getD 0, b) := by
  unfold confL
  have e : List.range F.length = List.range i ++ i :: (List.range F.length).drop (i + 1) := by
    conv => lhs; rw [← List.take_append_drop i (List.range F.length)]
    rw [List.take_range, show min i F.length = i by omega, List.drop_eq_getElem_cons (by rw [List.length_range]; exact hi), List.getElem_range]
  rw [e, List.findSome?_append]
  have h0 : (List.range i).findSome? (fun i => (rowC ts F i).map fun b => (F[i]?.getD 0, b)) = none := by
    rw [List.findSome?_eq_none_iff]
    intro q hq
    rw [h q (List.mem_range.1 hq)]; rfl
  rw [h0]
  simp [hb]
/-- A later block is not above an earlier one. -/
theorem abv_later {ts : List Blk} (ht : Tree ts) {a b : Nat} (ha : a < ts.length) (hab : a < b) : abv ts b a = false := by
  cases h : abv ts b a
  · rfl
  · obtain ⟨_, e⟩ := abv_iff.1 h
    have h2 : ∀ j k, k < ts.length → anc ts k j ≤ k := by
      intro j
      induction j with
      | zero => intro k _; exact Nat.le_refl _
      | succ j ih =>
        intro k hk
        by_cases h0 : k = 0
        · subst h0
          show anc ts 0 (j + 1) ≤ 0
          have : anc ts 0 (j + 1) = anc ts 0 (j + 1) := rfl
          have h3 := anc_add ts 0 1 j
          rw [show 1 + j = j + 1 by omega] at h3
          rw [h3]
          have h4 : anc ts 0 1 = parN ts 0 := rfl
          have h5 : parN ts 0 = 0 := by unfold parN; rw [ht.root]; rfl
          rw [h4, h5]
          exact ih 0 ht.pos
        · have h3 := anc_add ts k 1 j
          rw [show 1 + j = j + 1 by omega] at h3
          have h4 : anc ts k 1 = parN ts k := rfl
          have h5 := (ht.up hk h0).2
          rw [h3, h4]
          exact Nat.le_trans (ih _ (by omega)) (by omega)
    have := h2 (dep ts a - dep ts b) a ha
    omega
end Go.Proofs.Ythiegfbdmmpabaa
