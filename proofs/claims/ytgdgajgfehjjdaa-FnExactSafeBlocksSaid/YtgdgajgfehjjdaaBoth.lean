/- What is proved here: what InBoth returns, in the program and in the model, at every two slices of integers. No conditions but that the table of bits holds what its text lays. -/
import Derived.Test.YtgdgajgfehjjdaaOfWalks
import Derived.Test.YtgdgajgfehjjdaaMaskWalks
namespace Go.Proofs.Ytgdgajgfehjjdaa
open Go.RowKit

/-- Two strictly rising lists with the same members are one list. -/
theorem sorted_ext : ∀ (l l' : List Int), l.Pairwise (· < ·) → l'.Pairwise (· < ·) → (∀ x, x ∈ l ↔ x ∈ l') → l = l'
  | [], [], _, _, _ => rfl
  | [], y :: l', _, _, h => by have := (h y).2 (by simp); cases this
  | x :: l, [], _, _, h => by have := (h x).1 (by simp); cases this
  | x :: l, y :: l', h1, h2, h => by
    rw [List.pairwise_cons] at h1 h2
    have hx : x = y ∨ x ∈ l' := by simpa using (h x).1 (by simp)
    have hy : y = x ∨ y ∈ l := by simpa using (h y).2 (by simp)
    have hxy : x = y := by
      rcases hx with hx | hx
      · exact hx
      · rcases hy with hy | hy
        · exact hy.symm
        · have a := h1.1 _ hy; have b := h2.1 _ hx; omega
    subst hxy
    rw [sorted_ext l l' h1.2 h2.2 (fun z => ?_)]
    have hz := h z
    simp only [List.mem_cons] at hz
    constructor
    · intro hl
      rcases hz.1 (.inr hl) with e | e
      · subst e; have := h1.1 _ hl; omega
      · exact e
    · intro hl
      rcases hz.2 (.inr hl) with e | e
      · subst e; have := h2.1 _ hl; omega
      · exact e

theorem ris_sorted {xs : List Int} {lo hi : Int} (h : risB xs lo hi = true) : xs.Pairwise (· < ·) := by
  rw [List.pairwise_iff_getElem]
  intro i j hi hj hij
  have h1 := ris_mono h (j - 1 - i) i (by omega)
  have h2 := (risAt_iff.1 (risB_iff.1 h j hj)).2 (by omega)
  rw [show i + (j - 1 - i) = j - 1 by omega] at h1
  have e1 : xs[i]?.getD 0 = xs[i] := by rw [List.getElem?_eq_getElem hi]; rfl
  have e2 : xs[j]?.getD 0 = xs[j] := by rw [List.getElem?_eq_getElem hj]; rfl
  omega
theorem ris_mem {xs : List Int} {lo hi : Int} (h : risB xs lo hi = true) {x : Int} (hx : x ∈ xs) : lo ≤ x ∧ x ≤ hi := by
  obtain ⟨k, hk, rfl⟩ := List.getElem_of_mem hx
  have := risB_in h hk
  rwa [List.getElem?_eq_getElem hk, Option.getD_some] at this

theorem ofL_mem {m k : Nat} {x : Int} : x ∈ ofL m k ↔ ∃ i : Nat, i < k ∧ m.testBit i = true ∧ x = (i : Int) := by
  unfold ofL
  simp only [List.mem_map, List.mem_filter, List.mem_range]
  constructor
  · rintro ⟨i, ⟨h1, h2⟩, rfl⟩; exact ⟨i, h1, h2, rfl⟩
  · rintro ⟨i, h1, h2, rfl⟩; exact ⟨i, ⟨h1, h2⟩, rfl⟩
theorem ofL_sorted (m k : Nat) : (ofL m k).Pairwise (· < ·) := by
  unfold ofL
  rw [List.pairwise_map]
  refine List.Pairwise.filter _ ?_
  exact List.Pairwise.imp (fun h => by omega) List.pairwise_lt_range

theorem bitN_test (n i : Nat) : (bitN n).testBit i = decide (n = i) := by unfold bitN; exact Nat.testBit_two_pow
theorem mask_test_from (who : List Int) (m0 i : Nat) : (who.foldl (fun m k => m ||| bitN k.toNat) m0).testBit i = (m0.testBit i || who.any fun k => k.toNat == i) := by
  induction who generalizing m0 with
  | nil => simp
  | cons k who ih =>
    rw [List.foldl_cons, ih, Nat.testBit_or, bitN_test, List.any_cons, Bool.or_assoc]
    rfl
theorem mask_test {who : List Int} (h : risB who 0 9 = true) (i : Nat) : (maskL who).testBit i = true ↔ (i : Int) ∈ who := by
  unfold maskL
  rw [mask_test_from]
  simp only [Nat.zero_testBit, Bool.false_or, List.any_eq_true, beq_iff_eq]
  constructor
  · rintro ⟨k, hk, rfl⟩
    have := ris_mem h hk
    rwa [Int.toNat_of_nonneg this.1]
  · intro hi; exact ⟨_, hi, by simp⟩
theorem maskL_lt_all {who : List Int} (h : risB who 0 9 = true) : maskL who < 1024 := by
  have := maskL_lt h who.length (Nat.le_refl _)
  rwa [maskL_end (Nat.le_refl _)] at this

def hasB (xs : List Int) (x : Int) : Bool := decide (x ∈ xs)
def bothL (a b : List Int) : List Int := a.filter (hasB b)
theorem bothL_masks {a b : List Int} (ha : risB a 0 9 = true) (hb : risB b 0 9 = true) : ofL (maskL a &&& maskL b) 10 = bothL a b := by
  refine sorted_ext _ _ (ofL_sorted _ _) (List.Pairwise.filter _ (ris_sorted ha)) (fun x => ?_)
  rw [ofL_mem]
  unfold bothL
  rw [List.mem_filter]
  constructor
  · rintro ⟨i, _, h2, rfl⟩
    rw [Nat.testBit_and, Bool.and_eq_true, mask_test ha, mask_test hb] at h2
    exact ⟨h2.1, by unfold hasB; simpa using h2.2⟩
  · rintro ⟨h1, h2⟩
    have hx := ris_mem ha h1
    have h2' : x ∈ b := by unfold hasB at h2; simpa using h2
    obtain ⟨i, rfl⟩ := Int.eq_ofNat_of_zero_le hx.1
    refine ⟨i, by omega, ?_, rfl⟩
    rw [Nat.testBit_and, Bool.and_eq_true, mask_test ha, mask_test hb]
    exact ⟨h1, h2'⟩
theorem has_yes {xs : List Int} {x : Int} {k : Nat} (hk : k < xs.length) (h : xs[k]?.getD 0 = x) : hasB xs x = true := by
  rw [List.getElem?_eq_getElem hk, Option.getD_some] at h
  unfold hasB; simp; exact h ▸ List.getElem_mem hk
theorem has_no {xs : List Int} {x : Int} (h : ∀ j, j < xs.length → xs[j]?.getD 0 ≠ x) : hasB xs x = false := by
  unfold hasB; simp; intro hx
  obtain ⟨k, hk, e⟩ := List.getElem_of_mem hx
  exact h k hk (by rw [List.getElem?_eq_getElem hk]; exact e)
theorem both_yes {a b : List Int} {k : Nat} (hk : k < a.length) (h : hasB b (a[k]?.getD 0) = true) : bothL (a.take (k + 1)) b = bothL (a.take k) b ++ [a[k]?.getD 0] := by
  rw [List.getElem?_eq_getElem hk, Option.getD_some] at *
  rw [List.take_succ_eq_append_getElem hk]
  unfold bothL
  rw [List.filter_append]; simp [h]
theorem both_no {a b : List Int} {k : Nat} (hk : k < a.length) (h : hasB b (a[k]?.getD 0) = false) : bothL (a.take (k + 1)) b = bothL (a.take k) b := by
  rw [List.getElem?_eq_getElem hk, Option.getD_some] at h
  rw [List.take_succ_eq_append_getElem hk]
  unfold bothL
  rw [List.filter_append]; simp [h]
theorem bothL_len (a b : List Int) : (bothL a b).length ≤ a.length := List.length_filter_le _ _
theorem both_take_len (a b : List Int) (k : Nat) : (bothL (a.take k) b).length ≤ k := Nat.le_trans (bothL_len _ _) (by simp; omega)

set_option maxHeartbeats 400000 in
theorem l1Has_any (A : Option Addr) (n c B : Nat) (xs : List Int) (x : Int) (w : World) (h : IntsAt w B A n xs) (hn : n ≤ 1048576) :
    Calls Try.prog 131 #[.slice A n c, .int .i64 x] w fun e w' => e = .returned (.bool (hasB xs x)) ∧ w = w' := by
  have hl' := Lib.hid h.1
  have hr := Lib.hid h; clear h
  go_enter Try.func131, Try.ntmps131
  go_wp2
  go_loop [9] (fun i => ∃ k : Nat, k ≤ n ∧ i = .int .i64 k ∧ Hid (∀ j, j < k → xs[j]?.getD 0 ≠ x)) (fun i => n - (intOf i).toNat)
  case atStart => exact ⟨0, Nat.zero_le _, rfl, Lib.hid (fun j hj => absurd hj (Nat.not_lt_zero _))⟩
  case round =>
    obtain ⟨k, hk, rfl, hall⟩ := hrel
    by_cases hlt : k < n
    · obtain ⟨b, off, rfl, _, hc⟩ := hr.out.2 k hlt
      cases hx : (xs[k]?.getD 0 == x)
      · go_wp2
        go_round
        case rel =>
          refine ⟨k + 1, by omega, by go_num, Lib.hid (fun j hj => ?_)⟩
          by_cases e : j = k
          · subst e; simpa using hx
          · exact hall.out j (by omega)
        case measure => simp [intOf]; omega
      · have hy := Lib.hid (has_yes (xs := xs) (x := x) (k := k) (by rw [hl'.out]; exact hlt) (by simpa using hx))
        go_wp2
        go_ret
        exact ⟨ret_bool hy.out.symm, rfl⟩
    · go_wp2
      go_ret
      exact ⟨ret_bool (has_no (fun j hj => hall.out j (by rw [hl'.out] at hj; omega))).symm, rfl⟩

end Go.Proofs.Ytgdgajgfehjjdaa
