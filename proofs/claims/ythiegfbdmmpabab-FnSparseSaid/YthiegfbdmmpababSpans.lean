/- What is proved here: plain facts on the intervals of the preorder, as a walk along the tour finds them. No conditions. -/
import Derived.Test.YthiegfbdmmpababTourFacts
import Derived.Test.YthiegfbdmmpababRowsMarks
namespace Go.Proofs.Ythiegfbdmmpabab
open Go.RowKit

theorem snoc_ind {α : Type} {P : List α → Prop} (h0 : P []) (hs : ∀ p x, P p → P (p ++ [x])) (l : List α) : P l := by
  have h : ∀ r : List α, P r.reverse := fun r => by
    induction r with
    | nil => exact h0
    | cons x r ih => rw [List.reverse_cons]; exact hs _ _ ih
  have := h l.reverse
  rwa [List.reverse_reverse] at this
/-- Block b's interval as the walk along xs has it: where it was reached, and how many were reached at its last visit. -/
def spStep (s : (Nat → Nat × Nat) × Nat) (x : Nat × Bool) : (Nat → Nat × Nat) × Nat :=
  if x.2 then (fun k => if k = x.1 then (s.2, s.2 + 1) else s.1 k, s.2 + 1) else (fun k => if k = x.1 then ((s.1 k).1, s.2) else s.1 k, s.2)
def spF (xs : List (Nat × Bool)) : (Nat → Nat × Nat) × Nat := xs.foldl spStep (fun _ => (0, 0), 0)
theorem spF_snoc (p : List (Nat × Bool)) (x : Nat × Bool) : spF (p ++ [x]) = spStep (spF p) x := by unfold spF; rw [List.foldl_append]; rfl
theorem ordN_yes (p : List (Nat × Bool)) (k : Nat) : ordN (p ++ [(k, true)]) = ordN p ++ [k] := by simp [ordN]
theorem ordN_no (p : List (Nat × Bool)) (k : Nat) : ordN (p ++ [(k, false)]) = ordN p := by simp [ordN]
theorem spF_cnt (p : List (Nat × Bool)) : (spF p).2 = (ordN p).length := by
  refine snoc_ind (P := fun p => (spF p).2 = (ordN p).length) rfl (fun p x ih => ?_) p
  obtain ⟨k, t⟩ := x
  rw [spF_snoc]
  cases t
  · rw [ordN_no]; exact ih
  · rw [ordN_yes, List.length_append]; show (spF p).2 + 1 = _; rw [ih]; rfl
theorem spF_other (p : List (Nat × Bool)) (x : Nat × Bool) {k : Nat} (h : k ≠ x.1) : (spF (p ++ [x])).1 k = (spF p).1 k := by
  rw [spF_snoc]
  unfold spStep
  cases x.2 <;> simp [h]
theorem spF_first (p : List (Nat × Bool)) (k : Nat) : (spF (p ++ [(k, true)])).1 k = ((ordN p).length, (ordN p).length + 1) := by
  rw [spF_snoc, ← spF_cnt]; simp [spStep]
theorem spF_again (p : List (Nat × Bool)) (k : Nat) : (spF (p ++ [(k, false)])).1 k = (((spF p).1 k).1, (ordN p).length) := by
  rw [spF_snoc, ← spF_cnt]; simp [spStep]
/-- Where a block was reached it stands. -/
theorem spF_at (p : List (Nat × Bool)) : ∀ k, k ∈ ordN p → (ordN p).Nodup → (ordN p)[((spF p).1 k).1]? = some k := by
  refine snoc_ind (P := fun p => ∀ k, k ∈ ordN p → (ordN p).Nodup → (ordN p)[((spF p).1 k).1]? = some k) (fun k h => by cases h) (fun p x ih k hk hn => ?_) p
  obtain ⟨y, t⟩ := x
  cases t
  · rw [ordN_no] at hk hn ⊢
    have := ih k hk hn
    by_cases e : k = y
    · subst e; rw [spF_again]; exact this
    · rw [spF_other p (y, false) e]; exact this
  · rw [ordN_yes] at hk hn ⊢
    rw [List.nodup_append] at hn
    by_cases e : k = y
    · subst e
      rw [spF_first, List.getElem?_append_right (Nat.le_refl _)]; simp
    · have hk' : k ∈ ordN p := by
        rw [List.mem_append] at hk
        rcases hk with h | h
        · exact h
        · simp at h; exact absurd h e
      have := ih k hk' hn.1
      rw [spF_other p (y, true) e, List.getElem?_append_left (List.getElem?_eq_some_iff.1 this).1]
      exact this

theorem tour_in {ts : List Blk} (h : Tree ts) : ∀ f c, c < ts.length → ts.length - c ≤ f → ∀ e, e ∈ tour ts c → e.1 ∈ pre ts c := by
  intro f
  induction f with
  | zero => intro c hc hf; omega
  | succ f ih =>
    intro c hc hf e he
    rw [pre_step h hc]
    rw [tour_step h hc, List.mem_cons] at he
    rcases he with rfl | he
    · exact List.mem_cons_self ..
    · obtain ⟨d, hd, he⟩ := List.mem_flatMap.1 he
      obtain ⟨h1, h2, _⟩ := kids_above h hd
      rw [List.mem_append] at he
      rcases he with he | he
      · exact List.mem_cons_of_mem _ (List.mem_flatMap.2 ⟨d, hd, ih d h2 (by omega) e he⟩)
      · simp at he; subst he; exact List.mem_cons_self ..
theorem spF_seg {k : Nat} (p s : List (Nat × Bool)) (h : ∀ e, e ∈ s → e.1 ≠ k) : (spF (p ++ s)).1 k = (spF p).1 k := by
  refine snoc_ind (P := fun s => (∀ e, e ∈ s → e.1 ≠ k) → (spF (p ++ s)).1 k = (spF p).1 k) (fun _ => by rw [List.append_nil]) (fun s x ih hs => ?_) s h
  rw [← List.append_assoc, spF_other _ x (fun e => hs x (by simp) e.symm)]
  exact ih (fun e he => hs e (List.mem_append.2 (.inl he)))
theorem span_tour {ts : List Blk} (h : Tree ts) : ∀ f c, c < ts.length → ts.length - c ≤ f → ∀ p, ∀ x, x ∈ pre ts c → ((spF (p ++ tour ts c)).1 x).2 = ((spF (p ++ tour ts c)).1 x).1 + (pre ts x).length := by
  intro f
  induction f with
  | zero => intro c hc hf; omega
  | succ f ih =>
    intro c hc hf p
    have part : ∀ cs, cs <+: kids ts c → (spF (p ++ tourPart ts c cs)).1 c = ((ordN p).length, (ordN (p ++ tourPart ts c cs)).length) ∧
        ∀ d, d ∈ cs → ∀ x, x ∈ pre ts d → ((spF (p ++ tourPart ts c cs)).1 x).2 = ((spF (p ++ tourPart ts c cs)).1 x).1 + (pre ts x).length := by
      intro cs
      refine snoc_ind (P := fun cs => cs <+: kids ts c → (spF (p ++ tourPart ts c cs)).1 c = ((ordN p).length, (ordN (p ++ tourPart ts c cs)).length) ∧
        ∀ d, d ∈ cs → ∀ x, x ∈ pre ts d → ((spF (p ++ tourPart ts c cs)).1 x).2 = ((spF (p ++ tourPart ts c cs)).1 x).1 + (pre ts x).length) ?_ ?_ cs
      · intro _
        rw [tourPart_nil]
        refine ⟨by rw [spF_first, ordN_yes, List.length_append]; rfl, fun d hd => by cases hd⟩
      · intro cs d ihc hcs
        have hcs' : cs <+: kids ts c := List.IsPrefix.trans ⟨[d], rfl⟩ hcs
        obtain ⟨hA, hB⟩ := ihc hcs'
        have hdk : d ∈ kids ts c := hcs.subset (by simp)
        obtain ⟨d1, d2, d3⟩ := kids_above h hdk
        have hnc : ∀ x, x ∈ pre ts d → x ≠ c := fun x hx e => by have := (pre_up h _ d d2 (Nat.le_refl _) x hx).2.1; omega
        have hcd : ∀ e, e ∈ tour ts d → e.1 ≠ c := fun e he => hnc _ (tour_in h _ d d2 (Nat.le_refl _) e he)
        have hnd : (cs ++ [d]).Nodup := by
          obtain ⟨r, hr⟩ := hcs
          have hk : (kids ts c).Nodup := by unfold kids kidsL; exact List.Pairwise.filter _ List.nodup_range
          rw [← hr, List.nodup_append] at hk
          exact hk.1
        have e3 : p ++ tourPart ts c (cs ++ [d]) = p ++ tourPart ts c cs ++ tour ts d ++ [(c, false)] := by rw [tourPart_snoc]; simp only [List.append_assoc]
        rw [e3]
        refine ⟨?_, fun d' hd' x hx => ?_⟩
        · rw [spF_again, spF_seg _ _ hcd, hA, ordN_no]
        · have hd'k : d' ∈ kids ts c := hcs.subset hd'
          obtain ⟨d1', d2', d3'⟩ := kids_above h hd'k
          have hxc : x ≠ c := fun e => by have := (pre_up h _ d' d2' (Nat.le_refl _) x hx).2.1; omega
          rw [spF_other _ (c, false) hxc]
          rw [List.mem_append] at hd'
          rcases hd' with hd' | hd'
          · have hne : d ≠ d' := fun e => by
              subst e
              rw [List.nodup_append] at hnd
              exact hnd.2.2 d hd' d (by simp) rfl
            have hxd : ∀ e, e ∈ tour ts d → e.1 ≠ x := fun e he ee => by
              have hx2 := tour_in h _ d d2 (Nat.le_refl _) e he
              rw [ee] at hx2
              have q1 := dep_step h d2 (by omega)
              have q2 := dep_step h d2' (by omega)
              rw [d3] at q1
              rw [d3'] at q2
              exact hne (pre_apart h d2 d2' (by omega) hx2 hx)
            rw [spF_seg _ _ hxd]
            exact hB d' hd' x hx
          · simp at hd'
            subst hd'
            exact ih d' d2 (by omega) _ x hx
    intro x hx
    obtain ⟨hA, hB⟩ := part (kids ts c) (List.prefix_refl _)
    rw [tourPart_all h hc] at hA hB
    rw [pre_step h hc, List.mem_cons] at hx
    rcases hx with rfl | hx
    · rw [hA, ordN_append, List.length_append]; rfl
    · obtain ⟨d, hd, hx⟩ := List.mem_flatMap.1 hx
      exact hB d hd x hx

def Seen (S : Nat → Prop) (L : List (Nat × Bool)) : Prop := ∀ (i b : Nat), L[i]? = some (b, false) → S b ∨ ∃ j, j < i ∧ L[j]? = some (b, true)
theorem Seen.append {S : Nat → Prop} {L M : List (Nat × Bool)} (h : Seen S L) (k : Seen (fun b => S b ∨ (b, true) ∈ L) M) : Seen S (L ++ M) := by
  intro i b hi
  by_cases hlt : i < L.length
  · rw [List.getElem?_append_left hlt] at hi
    rcases h i b hi with h1 | ⟨j, hj, e⟩
    · exact .inl h1
    · exact .inr ⟨j, hj, by rw [List.getElem?_append_left (by omega)]; exact e⟩
  · rw [List.getElem?_append_right (by omega)] at hi
    rcases k _ b hi with (h1 | h1) | ⟨j, hj, e⟩
    · exact .inl h1
    · obtain ⟨j, hj, e⟩ := List.mem_iff_getElem.1 h1
      exact .inr ⟨j, by omega, by rw [List.getElem?_append_left hj, List.getElem?_eq_getElem hj, e]⟩
    · exact .inr ⟨L.length + j, by omega, by rw [List.getElem?_append_right (by omega)]; simpa using e⟩
theorem Seen.more {S S' : Nat → Prop} {L : List (Nat × Bool)} (h : Seen S L) (hs : ∀ b, S b → S' b) : Seen S' L := fun i b hi => (h i b hi).imp (hs b) id
theorem seen_tour {ts : List Blk} (h : Tree ts) : ∀ f c, c < ts.length → ts.length - c ≤ f → Seen (fun _ => False) (tour ts c) := by
  intro f
  induction f with
  | zero => intro c hc hf; omega
  | succ f ih =>
    intro c hc hf
    have part : ∀ cs, cs <+: kids ts c → Seen (fun _ => False) (tourPart ts c cs) := by
      intro cs
      refine snoc_ind (P := fun cs => cs <+: kids ts c → Seen (fun _ => False) (tourPart ts c cs)) ?_ ?_ cs
      · intro _ i b hi
        rw [tourPart_nil] at hi
        cases i with
        | zero => simp at hi
        | succ i => simp at hi
      · intro cs d ihc hcs
        obtain ⟨d1, d2, d3⟩ := kids_above h (hcs.subset (by simp : d ∈ cs ++ [d]))
        rw [tourPart_snoc]
        refine ((ihc (List.IsPrefix.trans ⟨[d], rfl⟩ hcs)).append ((ih d d2 (by omega)).more (fun b hb => hb.elim))).append ?_
        intro i b hi
        cases i with
        | zero => simp at hi; subst hi; exact .inl (.inr (List.mem_append.2 (.inl (by unfold tourPart; exact List.mem_cons_self ..))))
        | succ i => simp at hi
    have := part (kids ts c) (List.prefix_refl _)
    rwa [tourPart_all h hc] at this
theorem again_in {ts : List Blk} (h : Tree ts) {p : List (Nat × Bool)} {b : Nat} (hp : p ++ [(b, false)] <+: tour ts 0) : b ∈ ordN p := by
  obtain ⟨r, hr⟩ := hp
  have hi : (tour ts 0)[p.length]? = some (b, false) := by rw [← hr, List.append_assoc, List.getElem?_append_right (Nat.le_refl _)]; simp
  rcases seen_tour h _ 0 h.pos (Nat.le_refl _) _ b hi with h1 | ⟨j, hj, e⟩
  · exact h1.elim
  · rw [← hr, List.append_assoc, List.getElem?_append_left hj] at e
    obtain ⟨hj', e'⟩ := List.getElem?_eq_some_iff.1 e
    have hm : (b, true) ∈ p := by rw [← e']; exact List.getElem_mem _
    unfold ordN
    exact List.mem_map.2 ⟨(b, true), List.mem_filter.2 ⟨hm, rfl⟩, rfl⟩
theorem pre0_nodup {ts : List Blk} (h : Tree ts) {p : List (Nat × Bool)} (hp : p <+: tour ts 0) : (ordN p).Nodup := by
  obtain ⟨r, hr⟩ := hp
  have := pre_nodup h _ 0 h.pos (Nat.le_refl _)
  unfold pre at this
  rw [← hr, ordN_append, List.nodup_append] at this
  exact this.1
theorem first_new {ts : List Blk} (h : Tree ts) {p : List (Nat × Bool)} {b : Nat} (hp : p ++ [(b, true)] <+: tour ts 0) : b ∉ ordN p := by
  have := pre0_nodup h hp
  rw [ordN_yes, List.nodup_append] at this
  exact fun hb => this.2.2 b hb b (by simp) rfl
theorem tour_lt {ts : List Blk} (h : Tree ts) {p : List (Nat × Bool)} {x : Nat × Bool} (hp : p ++ [x] <+: tour ts 0) : x.1 < ts.length :=
  ((mem_pre h h.pos).1 (tour_in h _ 0 h.pos (Nat.le_refl _) x (hp.subset (by simp)))).1
/-- The interval of a block. -/
def spanRow (xs : List (Nat × Bool)) (b : Nat) : List Int := [(((spF xs).1 b).1 : Int), (((spF xs).1 b).2 : Int)]
def spansT (ts : List Blk) : List (List Int) := (List.range ts.length).map (spanRow (tour ts 0))
def spansR (ts : List Blk) : List (List Int) := if goodT ts then spansT ts else []
theorem spansT_len (ts : List Blk) : (spansT ts).length = ts.length := by simp [spansT]
theorem spansT_row {ts : List Blk} {b : Nat} (hb : b < ts.length) : rowG (spansT ts) b = spanRow (tour ts 0) b := by unfold rowG spansT; simp [hb]
theorem span_all {ts : List Blk} (h : Tree ts) {b : Nat} (hb : b < ts.length) : (pre ts 0)[((spF (tour ts 0)).1 b).1]? = some b ∧ ((spF (tour ts 0)).1 b).2 = ((spF (tour ts 0)).1 b).1 + (pre ts b).length := by
  have hm : b ∈ pre ts 0 := (mem_pre h h.pos).2 ⟨hb, dep ts b, Nat.le_refl _, anc_root h hb⟩
  refine ⟨spF_at (tour ts 0) b hm (pre_nodup h _ 0 h.pos (Nat.le_refl _)), ?_⟩
  have := span_tour h _ 0 h.pos (Nat.le_refl _) [] b hm
  rwa [List.nil_append] at this
end Go.Proofs.Ythiegfbdmmpabab
