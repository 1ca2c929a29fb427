/- What is proved here: plain facts on the preorder and the tour of a tree: who is in it, that nobody is twice, how long they are. No conditions. -/
import Derived.Test.YthiegfbdmmpababSpecTours
namespace Go.Proofs.Ythiegfbdmmpabab
open Go.RowKit

def ordN (xs : List (Nat × Bool)) : List Nat := (xs.filter fun x => x.2).map fun x => x.1
theorem orderL_eq (xs : List (Nat × Bool)) : orderL xs = kidsZ (ordN xs) := by unfold orderL ordN kidsZ; rw [List.map_map]; rfl
theorem ordN_append (xs ys : List (Nat × Bool)) : ordN (xs ++ ys) = ordN xs ++ ordN ys := by simp [ordN]
theorem ordN_flat (l : List Nat) (f : Nat → List (Nat × Bool)) : ordN (l.flatMap f) = l.flatMap fun c => ordN (f c) := by
  induction l with
  | nil => rfl
  | cons x l ih => rw [List.flatMap_cons, List.flatMap_cons, ordN_append, ih]
/-- The preorder of b. -/
def pre (ts : List Blk) (b : Nat) : List Nat := ordN (tour ts b)
theorem pre_step {ts : List Blk} (h : Tree ts) {b : Nat} (hb : b < ts.length) : pre ts b = b :: (kids ts b).flatMap (pre ts) := by
  have e : pre ts b = ordN ([(b, true)] ++ (kids ts b).flatMap fun c => tour ts c ++ [(b, false)]) := by unfold pre; rw [tour_step h hb]; rfl
  rw [e, ordN_append, ordN_flat, flatMap_congr' (g := pre ts) (fun c _ => by rw [ordN_append]; simp [ordN, pre])]
  rfl
theorem kids_iff {ts : List Blk} (h : Tree ts) {b c : Nat} : c ∈ kids ts b ↔ c < ts.length ∧ c ≠ 0 ∧ parN ts c = b := by
  unfold kids
  rw [kids_mem]
  constructor
  · rintro ⟨h1, h2⟩
    have h0 : c ≠ 0 := fun e => by subst e; rw [h.root] at h2; omega
    exact ⟨h1, h0, by unfold parN; rw [h2]; simp⟩
  · rintro ⟨h1, h0, h2⟩
    refine ⟨h1, ?_⟩
    rw [(h.up h1 h0).1, h2]
theorem pre_up {ts : List Blk} (h : Tree ts) : ∀ f b, b < ts.length → ts.length - b ≤ f → ∀ x, x ∈ pre ts b → x < ts.length ∧ b ≤ x ∧ ∃ j, j ≤ dep ts x ∧ anc ts x j = b := by
  intro f
  induction f with
  | zero => intro b hb hf; omega
  | succ f ih =>
    intro b hb hf x hx
    rw [pre_step h hb, List.mem_cons] at hx
    rcases hx with rfl | hx
    · exact ⟨hb, Nat.le_refl _, 0, Nat.zero_le _, rfl⟩
    · obtain ⟨c, hc, hx⟩ := List.mem_flatMap.1 hx
      obtain ⟨h1, h2, h3⟩ := kids_above h hc
      obtain ⟨hx1, hx2, j, hj, e⟩ := ih c h2 (by omega) x hx
      have hd := dep_anc h hx1 j hj
      rw [e] at hd
      have hc0 := dep_step h h2 (by omega)
      exact ⟨hx1, by omega, j + 1, by omega, by show parN ts (anc ts x j) = b; rw [e, h3]⟩
theorem pre_down {ts : List Blk} (h : Tree ts) {x : Nat} (hx : x < ts.length) : ∀ j, j ≤ dep ts x → x ∈ pre ts (anc ts x j) := by
  intro j
  induction j with
  | zero => intro _; rw [pre_step h (show anc ts x 0 < ts.length from hx)]; exact List.mem_cons_self ..
  | succ j ih =>
    intro hj
    have hd := dep_anc h hx j (by omega)
    have hl := anc_lt h hx j
    have h0 : anc ts x j ≠ 0 := fun e => by rw [e, dep_root] at hd; omega
    rw [pre_step h (anc_lt h hx (j + 1))]
    refine List.mem_cons_of_mem _ (List.mem_flatMap.2 ⟨anc ts x j, (kids_iff h).2 ⟨hl, h0, rfl⟩, ih (by omega)⟩)
theorem mem_pre {ts : List Blk} (h : Tree ts) {b x : Nat} (hb : b < ts.length) : x ∈ pre ts b ↔ x < ts.length ∧ ∃ j, j ≤ dep ts x ∧ anc ts x j = b :=
  ⟨fun hx => let ⟨h1, _, h3⟩ := pre_up h _ b hb (Nat.le_refl _) x hx; ⟨h1, h3⟩, fun ⟨h1, j, hj, e⟩ => by rw [← e]; exact pre_down h h1 j hj⟩
theorem pre_apart {ts : List Blk} (h : Tree ts) {c c' x : Nat} (hc : c < ts.length) (hc' : c' < ts.length) (hd : dep ts c = dep ts c') (h1 : x ∈ pre ts c) (h2 : x ∈ pre ts c') : c = c' := by
  obtain ⟨hx, j, hj, e⟩ := (mem_pre h hc).1 h1
  obtain ⟨_, j', hj', e'⟩ := (mem_pre h hc').1 h2
  have d1 := dep_anc h hx j hj
  have d2 := dep_anc h hx j' hj'
  rw [e] at d1
  rw [e'] at d2
  have : j = j' := by omega
  subst this
  exact e.symm.trans e'
theorem pre_nodup {ts : List Blk} (h : Tree ts) : ∀ f b, b < ts.length → ts.length - b ≤ f → (pre ts b).Nodup := by
  intro f
  induction f with
  | zero => intro b hb hf; omega
  | succ f ih =>
    intro b hb hf
    rw [pre_step h hb, List.nodup_cons]
    refine ⟨fun hx => ?_, ?_⟩
    · obtain ⟨c, hc, hx⟩ := List.mem_flatMap.1 hx
      obtain ⟨h1, h2, _⟩ := kids_above h hc
      have := (pre_up h _ c h2 (Nat.le_refl _) b hx).2.1
      omega
    · show List.Pairwise _ _
      rw [List.pairwise_flatMap]
      refine ⟨fun c hc => ?_, ?_⟩
      · obtain ⟨h1, h2, _⟩ := kids_above h hc
        exact ih c h2 (by omega)
      · have hk : (kids ts b).Nodup := by unfold kids kidsL; exact List.Pairwise.filter _ List.nodup_range
        refine List.Pairwise.imp_of_mem (fun {c c'} hc hc' hne x hx y hy e => ?_) hk
        subst e
        obtain ⟨h1, h2, h3⟩ := kids_above h hc
        obtain ⟨h1', h2', h3'⟩ := kids_above h hc'
        have d1 := dep_step h h2 (by omega)
        have d2 := dep_step h h2' (by omega)
        rw [h3] at d1
        rw [h3'] at d2
        exact hne (pre_apart h h2 h2' (by omega) hx hy)
theorem pre_len_le {ts : List Blk} (h : Tree ts) {b : Nat} (hb : b < ts.length) : (pre ts b).length ≤ ts.length := by
  have := (pre_nodup h _ b hb (Nat.le_refl _)).length_le_of_subset (l₂ := List.range ts.length) (fun x hx => List.mem_range.2 ((mem_pre h hb).1 hx).1)
  simpa using this
theorem anc_root {ts : List Blk} (h : Tree ts) {x : Nat} (hx : x < ts.length) : anc ts x (dep ts x) = 0 := by
  have := dep_anc h hx (dep ts x) (Nat.le_refl _)
  exact dep_zero h (anc_lt h hx _) (by omega)
theorem pre_len {ts : List Blk} (h : Tree ts) : (pre ts 0).length = ts.length := by
  refine Nat.le_antisymm (pre_len_le h h.pos) ?_
  have := List.nodup_range (n := ts.length) |>.length_le_of_subset (l₂ := pre ts 0) (fun x hx => (mem_pre h h.pos).2 ⟨List.mem_range.1 hx, dep ts x, Nat.le_refl _, anc_root h (List.mem_range.1 hx)⟩)
  simpa using this
theorem flatMap_len {α β : Type} (l : List α) (f : α → List β) (g : α → Nat) (h : ∀ x, x ∈ l → (f x).length = g x) : (l.flatMap f).length = (l.map g).sum := by
  induction l with
  | nil => rfl
  | cons x l ih => rw [List.flatMap_cons, List.length_append, h x (by simp), ih (fun y hy => h y (by simp [hy]))]; simp
theorem tour_pre {ts : List Blk} (h : Tree ts) : ∀ f b, b < ts.length → ts.length - b ≤ f → (tour ts b).length + 1 = 2 * (pre ts b).length := by
  intro f
  induction f with
  | zero => intro b hb hf; omega
  | succ f ih =>
    intro b hb hf
    rw [tour_step h hb, pre_step h hb, List.length_cons, List.length_cons]
    rw [flatMap_len _ _ (fun c => 2 * (pre ts c).length) (fun c hc => ?_), flatMap_len _ _ (fun c => (pre ts c).length) (fun c hc => rfl)]
    · have : ∀ l : List Nat, (l.map fun c => 2 * (pre ts c).length).sum = 2 * (l.map fun c => (pre ts c).length).sum := by
        intro l
        induction l with
        | nil => rfl
        | cons x l ih => simp only [List.map_cons, List.sum_cons, ih]; omega
      rw [this]; omega
    · obtain ⟨h1, h2, _⟩ := kids_above h hc
      have := ih c h2 (by omega)
      rw [List.length_append]; simp only [List.length_cons, List.length_nil]; omega
theorem tour_len {ts : List Blk} (h : Tree ts) : (tour ts 0).length = 2 * ts.length - 1 := by
  have := tour_pre h _ 0 h.pos (Nat.le_refl _)
  rw [pre_len h] at this
  omega
theorem tour_short {ts : List Blk} (h : Tree ts) {b : Nat} (hb : b < ts.length) : (tour ts b).length ≤ 47 := by
  have := tour_pre h _ b hb (Nat.le_refl _)
  have := pre_len_le h hb
  have := h.few
  omega
theorem ordR_len (ts : List Blk) : (ordR ts).length ≤ 100 := by
  unfold ordR
  cases hg : goodT ts
  · simp
  · have ht := goodT_iff.1 hg
    simp only [if_true]
    have := tour_short ht ht.pos
    exact Nat.le_trans (orderL_len _) (by omega)
theorem tourR_len (ts : List Blk) : (tourR ts).length ≤ 100 := by
  unfold tourR
  cases hg : goodT ts
  · simp
  · have ht := goodT_iff.1 hg
    simp only [if_true]
    have := tour_short ht ht.pos
    rw [tourL_len]; omega
theorem kidsR_len (ts : List Blk) (b : Int) : (kidsR ts b).length ≤ 100 := by
  unfold kidsR
  cases hg : okK ts b
  · simp
  · have ht := (okK_iff.1 hg).1
    have hf := ht.few
    simp only [if_true]
    unfold kidsZ kids kidsL
    rw [List.length_map]
    refine Nat.le_trans (List.length_filter_le _ _) ?_
    rw [List.length_range]; omega
end Go.Proofs.Ythiegfbdmmpabab
