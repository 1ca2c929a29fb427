/- What is proved here: what SparseOf of the program and of the model return. No conditions. -/
import Derived.Test.YthiegfbdmmpababSparseImpl
namespace Go.Proofs.Ythiegfbdmmpabab
open Go.RowKit

def LowPost (w : World) (l : List Int) (n : Nat) (e : Ending) (w' : World) : Prop :=
  ∃ m : Int, e = .returned (.int .i64 m) ∧ (∃ k, k < n ∧ m = l[k]?.getD 0) ∧ (∀ k, k < n → m ≤ l[k]?.getD 0) ∧ w = w'
def HighPost (w : World) (l : List Int) (n : Nat) (e : Ending) (w' : World) : Prop :=
  ∃ m : Int, e = .returned (.int .i64 m) ∧ (∃ k, k < n ∧ m = l[k]?.getD 0) ∧ (∀ k, k < n → l[k]?.getD 0 ≤ m) ∧ w = w'

set_option maxRecDepth 100000 in
set_option maxHeartbeats 400000 in
theorem minOf_any (A : Option Addr) (n c B0 : Nat) (l : List Int) (w : World) (h : IntsAt w B0 A n l) (hn0 : 0 < n) (hn : n ≤ 1048576) : Calls Try.prog 101 #[.slice A n c] w (LowPost w l n) := by
  obtain ⟨ab, ao, rfl, _, hc0⟩ := h.2 0 hn0
  have hcs := Lib.hid (show ∀ j, j < n → w.cell? ⟨ab, ao + j, none⟩ = some (.int .i64 (l[j]?.getD 0)) from fun j hj => by
    obtain ⟨b', o', e, _, hc⟩ := h.2 j hj
    cases e; exact hc)
  have hn1 : ¬ (n : Int) < 1 := by omega
  clear h
  rw [Nat.add_zero] at hc0
  go_enter Try.func101, Try.ntmps101
  go_wp2_with fail
  go_loop [3, 4] (fun mv iv => ∃ (m : Int) (i : Nat), 0 < i ∧ i ≤ n ∧ mv = .int .i64 m ∧ iv = .int .i64 i ∧ Hid ((∃ k, k < i ∧ m = l[k]?.getD 0) ∧ ∀ k, k < i → m ≤ l[k]?.getD 0)) (fun _ iv => n - (intOf iv).toNat)
  case atStart => exact ⟨_, 1, by omega, by omega, rfl, rfl, Lib.hid ⟨⟨0, by omega, rfl⟩, fun k hk => by have e0 : k = 0 := (by omega); rw [e0]; exact Int.le_refl _⟩⟩
  case round =>
    obtain ⟨m, i, hi0, hi, rfl, rfl, hm⟩ := hrel
    by_cases hlt : i < n
    · have hc := hcs.out i hlt
      obtain ⟨x, hx⟩ : ∃ x, l[i]?.getD 0 = x := ⟨_, rfl⟩
      rw [hx] at hc
      have hx' := Lib.hid hx
      clear hx
      go_wp2_with fail
      go_round
      case rel =>
        refine ⟨_, i + 1, by omega, by omega, rfl, by go_num, Lib.hid ⟨?_, fun k hk => ?_⟩⟩
        · by_cases hxm : x < m
          · exact ⟨i, by omega, by rw [if_pos hxm, hx'.out]⟩
          · obtain ⟨k, hk, e⟩ := hm.out.1
            exact ⟨k, by omega, by rw [if_neg hxm]; exact e⟩
        · by_cases e : k = i
          · subst e; rw [hx'.out]; split <;> omega
          · have := hm.out.2 k (by omega)
            split <;> omega
      case measure => simp [intOf]; omega
    · have e : i = n := by omega
      have hm' := Lib.hid hm.out
      rw [e] at hm'
      clear e hm
      go_wp2_with fail
      go_ret
      exact ⟨m, rfl, hm'.out.1, hm'.out.2, rfl⟩

set_option maxRecDepth 100000 in
set_option maxHeartbeats 400000 in
theorem maxOf_any (A : Option Addr) (n c B0 : Nat) (l : List Int) (w : World) (h : IntsAt w B0 A n l) (hn0 : 0 < n) (hn : n ≤ 1048576) : Calls Try.prog 102 #[.slice A n c] w (HighPost w l n) := by
  obtain ⟨ab, ao, rfl, _, hc0⟩ := h.2 0 hn0
  have hcs := Lib.hid (show ∀ j, j < n → w.cell? ⟨ab, ao + j, none⟩ = some (.int .i64 (l[j]?.getD 0)) from fun j hj => by
    obtain ⟨b', o', e, _, hc⟩ := h.2 j hj
    cases e; exact hc)
  have hn1 : ¬ (n : Int) < 1 := by omega
  clear h
  rw [Nat.add_zero] at hc0
  go_enter Try.func102, Try.ntmps102
  go_wp2_with fail
  go_loop [3, 4] (fun mv iv => ∃ (m : Int) (i : Nat), 0 < i ∧ i ≤ n ∧ mv = .int .i64 m ∧ iv = .int .i64 i ∧ Hid ((∃ k, k < i ∧ m = l[k]?.getD 0) ∧ ∀ k, k < i → l[k]?.getD 0 ≤ m)) (fun _ iv => n - (intOf iv).toNat)
  case atStart => exact ⟨_, 1, by omega, by omega, rfl, rfl, Lib.hid ⟨⟨0, by omega, rfl⟩, fun k hk => by have e0 : k = 0 := (by omega); rw [e0]; exact Int.le_refl _⟩⟩
  case round =>
    obtain ⟨m, i, hi0, hi, rfl, rfl, hm⟩ := hrel
    by_cases hlt : i < n
    · have hc := hcs.out i hlt
      obtain ⟨x, hx⟩ : ∃ x, l[i]?.getD 0 = x := ⟨_, rfl⟩
      rw [hx] at hc
      have hx' := Lib.hid hx
      clear hx
      go_wp2_with fail
      go_round
      case rel =>
        refine ⟨_, i + 1, by omega, by omega, rfl, by go_num, Lib.hid ⟨?_, fun k hk => ?_⟩⟩
        · by_cases hxm : m < x
          · exact ⟨i, by omega, by rw [if_pos hxm, hx'.out]⟩
          · obtain ⟨k, hk, e⟩ := hm.out.1
            exact ⟨k, by omega, by rw [if_neg hxm]; exact e⟩
        · by_cases e : k = i
          · subst e; rw [hx'.out]; split <;> omega
          · have := hm.out.2 k (by omega)
            split <;> omega
      case measure => simp [intOf]; omega
    · have e : i = n := by omega
      have hm' := Lib.hid hm.out
      rw [e] at hm'
      clear e hm
      go_wp2_with fail
      go_ret
      exact ⟨m, rfl, hm'.out.1, hm'.out.2, rfl⟩

theorem allB_of {s : List Int} {lo hi : Int} (h : ∀ k, k < s.length → lo ≤ s[k]?.getD 0 ∧ s[k]?.getD 0 ≤ hi) : allB s lo hi = true := by
  unfold allB
  rw [List.all_eq_true]
  intro x hx
  obtain ⟨k, hk, e⟩ := List.mem_iff_getElem.1 hx
  have := h k hk
  rw [List.getElem?_eq_getElem hk, Option.getD_some, e] at this
  exact inB_true this.1 this.2
theorem allB_not {s : List Int} {lo hi : Int} {k : Nat} (hk : k < s.length) (h : ¬ (lo ≤ s[k]?.getD 0 ∧ s[k]?.getD 0 ≤ hi)) : allB s lo hi = false := by
  cases e : allB s lo hi
  · rfl
  · exact absurd (allB_get e hk) h

def RetRows (w : World) (b : Bool) (rows : List (List Int)) (e : Ending) (w' : World) : Prop :=
  ∃ A n c, e = .returned (.tuple #[.slice A n c, .bool b]) ∧ rows.length = n ∧ RowsOwn w' w.heap.size A n (rowG rows) ∧ Below w.heap.size w w'
theorem rows_ret {w w' : World} {v : Value} {l : List Int} (hr : RowsSt w.heap.size w' v (spN l.length) (spRow l)) : ∃ A c, v = .slice A (spN l.length) c ∧ RowsOwn w' w.heap.size A (spN l.length) (rowG (spT l)) := by
  obtain ⟨A, c, e, h⟩ := hr.rows
  refine ⟨A, c, e, ⟨fun hn => ?_⟩⟩
  obtain ⟨g, m, f, e, hB, hm, hrow, ad, ca, h1, h2⟩ := h.own hn
  refine ⟨g, m, f, e, hB, hm, hrow, ad, ca, fun i hi => ?_, h2⟩
  rw [spT_row hi]
  exact h1 i hi
theorem rows_nil (w : World) (b : Bool) : RetRows w b [] (.returned (.tuple #[.slice none 0 0, .bool b])) w := ⟨none, 0, 0, rfl, rfl, ⟨fun h => absurd h (Nat.lt_irrefl _)⟩, Below.refl _ _⟩

set_option maxRecDepth 100000 in
set_option maxHeartbeats 1000000 in
theorem implSparse_any (A : Option Addr) (n c : Nat) (l : List Int) (w : World) (h : IntsAt w w.heap.size A n l) (hn : n ≤ 1048576) :
    Calls Try.prog 46 #[.slice A n c] w (RetRows w (goodN l) (spR l)) := by
  have hl := Lib.hid h.1
  have hh := Lib.hid h; clear h
  have hfin := Lib.hid (show goodN l = false → RetRows w (goodN l) (spR l) (.returned (.tuple #[.slice none 0 0, .bool false])) w from fun e => by
    have : spR l = [] := by unfold spR; rw [e]; rfl
    rw [e, this]; exact rows_nil w false)
  by_cases h1 : n < 1
  · have hb := Lib.hid (show goodN l = false by unfold goodN; rw [hl.out, inB_low (by omega)]; rfl)
    have h1' : (n : Int) < 1 := by omega
    go_enter Try.func46, Try.ntmps46
    go_wp2_with fail
    go_ret2
    exact hfin.out hb.out
  · have h1' : ¬ (n : Int) < 1 := by omega
    by_cases h2 : 60 < n
    · have hb := Lib.hid (show goodN l = false by unfold goodN; rw [hl.out, inB_high (by omega)]; rfl)
      have h2' : (60 : Int) < (n : Int) := by omega
      go_enter Try.func46, Try.ntmps46
      go_wp2_with fail
      go_ret2
      exact hfin.out hb.out
    · have h2' : ¬ (60 : Int) < (n : Int) := by omega
      go_enter Try.func46, Try.ntmps46
      go_wp2_with fail
      refine (minOf_any _ _ _ _ l w hh.out (by omega) hn).mono ?_
      rintro e w1 ⟨m, rfl, hm1, hm2, rfl⟩
      by_cases h3 : m < 0
      · have hb := Lib.hid (show goodN l = false by
          obtain ⟨k, hk, e⟩ := hm1
          unfold goodN; rw [allB_not (k := k) (by rw [hl.out]; exact hk) (by rw [← e]; omega), Bool.and_false])
        go_wp2_with fail
        go_ret2
        exact hfin.out hb.out
      · have hm2' := Lib.hid hm2
        clear hm1 hm2
        go_wp2_with fail
        refine (maxOf_any _ _ _ _ l w hh.out (by omega) hn).mono ?_
        rintro e w1 ⟨M, rfl, hM1, hM2, rfl⟩
        by_cases h4 : 100000 < M
        · have hb := Lib.hid (show goodN l = false by
            obtain ⟨k, hk, e⟩ := hM1
            unfold goodN; rw [allB_not (k := k) (by rw [hl.out]; exact hk) (by rw [← e]; omega), Bool.and_false])
          go_wp2_with fail
          go_ret2
          exact hfin.out hb.out
        · have hb := Lib.hid (show goodN l = true by
            unfold goodN
            rw [hl.out, inB_true (by omega) (by omega), allB_of (fun k hk => ?_)]
            · rfl
            · rw [hl.out] at hk
              have := hm2'.out k hk
              have := hM2 k hk
              omega)
          have hr := Lib.hid (show spR l = spT l by unfold spR; rw [hb.out]; rfl)
          clear hM1 hM2
          go_wp2_with fail
          refine (sparseRows_any A n c w.heap.size l w hh.out (Nat.le_refl _) (by omega) (by omega)).mono ?_
          rintro e w2 ⟨v, rfl, hst, b2⟩
          rw [← hl.out] at hst
          obtain ⟨A', c', rfl, ho⟩ := rows_ret hst
          have ho' := Lib.hid ho; have b2' := Lib.hid b2
          have hsl := Lib.hid (spT_len l)
          clear hst ho b2
          generalize spN l.length = N at ho' hsl ⊢
          go_wp2_with fail
          go_ret2
          exact ⟨A', N, c', by rw [hb.out]; rfl, by rw [hr.out]; exact hsl.out, by rw [hr.out]; exact ho'.out, b2'.out⟩

set_option maxRecDepth 100000 in
theorem l4Numbers_any (A : Option Addr) (n c B : Nat) (l : List Int) (w : World) (h : IntsAt w B A n l) (hn : n ≤ 1048576) :
    Calls Try.prog 104 #[.slice A n c] w fun e w' => e = .returned (.bool (goodN l)) ∧ w = w' := by
  have hl := Lib.hid h.1
  have hh := Lib.hid h; clear h
  go_enter Try.func104, Try.ntmps104
  go_wp2_with fail
  refine (l1In_any _ _ _ _).mono ?_
  rintro e w1 ⟨rfl, rfl⟩
  cases hb : inB (n : Int) 1 60
  · have hr := Lib.hid (show goodN l = false by unfold goodN; rw [hl.out, hb]; rfl)
    go_wp2_with fail
    go_ret
    exact ⟨by rw [hr.out]; rfl, rfl⟩
  · have hr := Lib.hid (show goodN l = allB l 0 100000 by unfold goodN; rw [hl.out, hb]; rfl)
    go_wp2_with fail
    refine (l1All_any _ _ _ _ l 0 100000 w hh.out hn).mono ?_
    rintro e w1 ⟨rfl, rfl⟩
    go_wp2_with fail
    go_ret
    exact ⟨by rw [hr.out]; rfl, rfl⟩

set_option maxRecDepth 100000 in
theorem specSparse_any (A : Option Addr) (n c : Nat) (l : List Int) (w : World) (h : IntsAt w w.heap.size A n l) (hn : n ≤ 1048576) :
    Calls Try.prog 47 #[.slice A n c] w (RetRows w (goodN l) (spR l)) := by
  have hl := Lib.hid h.1
  have hh := Lib.hid h; clear h
  have hfin := Lib.hid (show goodN l = false → RetRows w (goodN l) (spR l) (.returned (.tuple #[.slice none 0 0, .bool false])) w from fun e => by
    have : spR l = [] := by unfold spR; rw [e]; rfl
    rw [e, this]; exact rows_nil w false)
  go_enter Try.func47, Try.ntmps47
  go_wp2_with fail
  refine (l4Numbers_any _ _ _ _ l w hh.out hn).mono ?_
  rintro e w1 ⟨rfl, rfl⟩
  cases hb : goodN l
  · go_wp2_with fail
    go_ret2
    have := hfin.out hb
    rw [hb] at this ⊢
    exact this
  · have hr := Lib.hid (show spR l = spT l by unfold spR; rw [hb]; rfl)
    have hb' := hb
    unfold goodN at hb'
    rw [Bool.and_eq_true, inB_iff, hl.out] at hb'
    obtain ⟨⟨g1, g2⟩, _⟩ := hb'
    have hb2 := Lib.hid hb
    clear hb
    go_wp2_with fail
    refine (l4Sparse_any A n c w.heap.size l w hh.out (Nat.le_refl _) (by omega) (by omega)).mono ?_
    rintro e w2 ⟨v, rfl, hst, b2⟩
    rw [← hl.out] at hst
    obtain ⟨A', c', rfl, ho⟩ := rows_ret hst
    have ho' := Lib.hid ho; have b2' := Lib.hid b2
    have hsl := Lib.hid (spT_len l)
    clear hst ho b2
    generalize spN l.length = N at ho' hsl ⊢
    go_wp2_with fail
    go_ret2
    exact ⟨A', N, c', by rw [hb2.out]; rfl, by rw [hr.out]; exact hsl.out, by rw [hr.out]; exact ho'.out, b2'.out⟩
end Go.Proofs.Ythiegfbdmmpabab
