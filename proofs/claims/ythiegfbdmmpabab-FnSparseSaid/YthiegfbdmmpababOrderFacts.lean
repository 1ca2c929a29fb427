/- What is proved here: plain facts for FnOrder: every subtree is a stretch of the preorder. No conditions. -/
import Derived.Test.YthiegfbdmmpababSpansSpec
import Derived.Test.YthiegfbdmmpababBelow
namespace Go.Proofs.Ythiegfbdmmpabab
open Go.RowKit

theorem flat_infix {α β : Type} {l : List α} {f : α → List β} {x : α} (h : x ∈ l) : f x <:+: l.flatMap f := by
  obtain ⟨p, s, rfl⟩ := List.append_of_mem h
  rw [List.flatMap_append, List.flatMap_cons]
  exact ⟨p.flatMap f, s.flatMap f, by simp⟩
theorem pre_infix {ts : List Blk} (h : Tree ts) {x : Nat} (hx : x < ts.length) : ∀ j, j ≤ dep ts x → pre ts x <:+: pre ts (anc ts x j) := by
  intro j
  induction j with
  | zero => intro _; exact List.infix_refl _
  | succ j ih =>
    intro hj
    have hd := dep_anc h hx j (by omega)
    have hl := anc_lt h hx j
    have h0 : anc ts x j ≠ 0 := fun e => by rw [e, dep_root] at hd; omega
    refine (ih (by omega)).trans ?_
    rw [pre_step h (anc_lt h hx (j + 1))]
    exact List.IsInfix.trans (flat_infix (f := pre ts) ((kids_iff h).2 ⟨hl, h0, rfl⟩)) ⟨[anc ts x (j + 1)], [], by simp; rfl⟩
theorem pre_part {ts : List Blk} (h : Tree ts) {b : Nat} (hb : b < ts.length) : ∃ p s, pre ts 0 = p ++ pre ts b ++ s := by
  have := pre_infix h hb (dep ts b) (Nat.le_refl _)
  rw [anc_root h hb] at this
  obtain ⟨p, s, e⟩ := this
  exact ⟨p, s, e.symm⟩
theorem has_iff {ts : List Blk} (h : Tree ts) {b i k y : Nat} (hb : b < ts.length) (hi : (pre ts 0)[i]? = some b) (hk : (pre ts 0)[k]? = some y) : y ∈ pre ts b ↔ i ≤ k ∧ k < i + (pre ts b).length := by
  obtain ⟨p, s, e⟩ := pre_part h hb
  have hn := pre_nodup h _ 0 h.pos (Nat.le_refl _)
  obtain ⟨r, hr⟩ : ∃ r, pre ts b = b :: r := ⟨_, pre_step h hb⟩
  obtain ⟨hil, hie⟩ := List.getElem?_eq_some_iff.1 hi
  obtain ⟨hkl, hke⟩ := List.getElem?_eq_some_iff.1 hk
  have hpl : p.length < (pre ts 0).length := by rw [e, hr]; simp
  have hip : i = p.length := by
    have e2 : (pre ts 0)[p.length]? = some b := by rw [e, List.append_assoc, List.getElem?_append_right (Nat.le_refl _), hr]; simp
    obtain ⟨_, e3⟩ := List.getElem?_eq_some_iff.1 e2
    exact (List.getElem_inj hn).1 (hie.trans e3.symm)
  have hlen : (pre ts 0).length = p.length + (pre ts b).length + s.length := by rw [e]; simp; omega
  constructor
  · intro hy
    obtain ⟨j, hj, ej⟩ := List.mem_iff_getElem.1 hy
    have e2 : (pre ts 0)[p.length + j]? = some y := by
      rw [e, List.append_assoc, List.getElem?_append_right (by omega), Nat.add_sub_cancel_left, List.getElem?_append_left hj, List.getElem?_eq_getElem hj, ej]
    obtain ⟨h3, e3⟩ := List.getElem?_eq_some_iff.1 e2
    have := (List.getElem_inj hn).1 (hke.trans e3.symm)
    omega
  · rintro ⟨h1, h2⟩
    obtain ⟨j, rfl⟩ : ∃ j, k = p.length + j := ⟨k - p.length, by omega⟩
    have hj : j < (pre ts b).length := by omega
    have e2 : (pre ts 0)[p.length + j]? = some (pre ts b)[j] := by
      rw [e, List.append_assoc, List.getElem?_append_right (by omega), Nat.add_sub_cancel_left, List.getElem?_append_left hj, List.getElem?_eq_getElem hj]
    rw [hk] at e2
    injection e2 with e2
    rw [e2]; exact List.getElem_mem _
theorem sort_mem {l : List Int} {x : Int} : x ∈ sortI l ↔ x ∈ l := (List.mergeSort_perm l _).mem_iff
theorem has_span {ts : List Blk} (h : Tree ts) {b i k y : Nat} (hb : b < ts.length) (hi : (pre ts 0)[i]? = some b) (hk : (pre ts 0)[k]? = some y) :
    decide ((y : Int) ∈ sortI (orderL (tour ts b))) = (decide (i ≤ k) && decide (k < i + (pre ts b).length)) := by
  have h1 := has_iff h hb hi hk
  have h2 : ((y : Int) ∈ sortI (orderL (tour ts b))) ↔ y ∈ pre ts b := by
    rw [sort_mem, orderL_eq]
    unfold kidsZ
    rw [List.mem_map]
    constructor
    · rintro ⟨a, ha, e⟩; have : a = y := by omega
      subst this; exact ha
    · exact fun ha => ⟨y, ha, rfl⟩
  rw [← Bool.decide_and]
  exact decide_eq_decide.2 (h2.trans h1)

theorem has_any (A : Option Addr) (n c B : Nat) (xs : List Int) (x : Int) (w : World) (h : IntsAt w B A n xs) (hn : n ≤ 1048576) :
    Calls Try.prog 16 #[.slice A n c, .int .i64 x] w fun e w' => e = .returned (.bool (decide (x ∈ xs))) ∧ w' = w := by
  have hl := Lib.hid h.1
  have hr := Lib.hid h; clear h
  go_enter Try.func16, Try.ntmps16
  go_wp2_with fail
  go_loop [6, 9] (fun _ i => ∃ k : Nat, k ≤ n ∧ i = .int .i64 k ∧ Hid (∀ j, j < k → xs[j]?.getD 0 ≠ x)) (fun _ i => n - (intOf i).toNat)
  case atStart => exact ⟨0, Nat.zero_le _, rfl, Lib.hid (fun j hj => absurd hj (Nat.not_lt_zero _))⟩
  case round =>
    obtain ⟨k, hk, rfl, hall⟩ := hrel
    by_cases hlt : k < n
    · obtain ⟨b, off, e, _, hc⟩ := hr.out.2 k hlt
      subst e
      obtain ⟨y, hy⟩ : ∃ y, Hid (xs[k]?.getD 0 = y) := ⟨_, Lib.hid rfl⟩
      rw [hy.out] at hc
      by_cases he : y = x
      · have hq : (y == x) = true := by simp [he]
        have hin := Lib.hid (show decide (x ∈ xs) = true by
          have := hy.out
          rw [List.getElem?_eq_getElem (by rw [hl.out]; exact hlt), Option.getD_some] at this
          rw [decide_eq_true_iff, ← he, ← this]; exact List.getElem_mem _)
        clear he
        go_wp2_with fail
        go_ret
        exact ⟨ret_bool hin.out.symm, rfl⟩
      · have hq : (y == x) = false := by simp [he]
        have hall2 := Lib.hid (show ∀ j, j < k + 1 → xs[j]?.getD 0 ≠ x from fun j hj => by
          by_cases e : j = k
          · subst e; rw [hy.out]; exact he
          · exact hall.out j (by omega))
        clear he
        go_wp2_with fail
        go_round
        case rel => exact ⟨k + 1, by omega, by go_num, hall2⟩
        case measure => simp [intOf]; omega
    · have hin := Lib.hid (show decide (x ∈ xs) = false by
        rw [decide_eq_false_iff_not]
        intro hm
        obtain ⟨j, hj, e⟩ := List.mem_iff_getElem.1 hm
        refine hall.out j (by rw [hl.out] at hj; omega) ?_
        rw [List.getElem?_eq_getElem hj, Option.getD_some, e])
      go_wp2_with fail
      go_ret
      exact ⟨ret_bool hin.out.symm, rfl⟩
end Go.Proofs.Ythiegfbdmmpabab
