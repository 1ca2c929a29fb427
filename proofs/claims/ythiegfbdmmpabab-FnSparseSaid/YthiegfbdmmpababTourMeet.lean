/- What is proved here: plain facts: between the first steps of two blocks in the tour the least rank (by depth, then by number) is that of their lowest common ancestor. No conditions. -/
import Derived.Test.YthiegfbdmmpababOrderFacts
import Derived.Test.YthiegfbdmmpababTreeFacts
import Derived.Test.YthiegfbdmmpababLeastFacts
namespace Go.Proofs.Ythiegfbdmmpabab
open Go.RowKit

def tn (ts : List Blk) (b : Nat) : List Nat := (tour ts b).map fun e => e.1
theorem tn_step {ts : List Blk} (h : Tree ts) {b : Nat} (hb : b < ts.length) : tn ts b = b :: (kids ts b).flatMap fun c => tn ts c ++ [b] := by
  unfold tn
  rw [tour_step h hb, List.map_cons, List.map_flatMap]
  congr 1
  exact flatMap_congr' (fun c _ => by simp)
theorem mem_tn {ts : List Blk} (h : Tree ts) {b x : Nat} (hb : b < ts.length) : x ∈ tn ts b ↔ x ∈ pre ts b := by
  constructor
  · intro hx
    obtain ⟨e, he, rfl⟩ := List.mem_map.1 hx
    exact tour_in h _ b hb (Nat.le_refl _) e he
  · intro hx
    unfold pre ordN at hx
    obtain ⟨e, he, rfl⟩ := List.mem_map.1 hx
    exact List.mem_map.2 ⟨e, (List.mem_filter.1 he).1, rfl⟩
theorem pre_sub {ts : List Blk} (h : Tree ts) {c d x : Nat} (hc : c < ts.length) (hd : d ∈ kids ts c) (hx : x ∈ pre ts d) : x ∈ pre ts c := by
  rw [pre_step h hc]; exact List.mem_cons_of_mem _ (List.mem_flatMap.2 ⟨d, hd, hx⟩)
/-- Two children of one block have nobody in common below them. -/
theorem kids_part {ts : List Blk} (h : Tree ts) {c d d' x : Nat} (hd : d ∈ kids ts c) (hd' : d' ∈ kids ts c) (hx : x ∈ pre ts d) (hx' : x ∈ pre ts d') : d = d' := by
  obtain ⟨h1, h2, h3⟩ := kids_above h hd
  obtain ⟨h1', h2', h3'⟩ := kids_above h hd'
  have q1 := dep_step h h2 (by omega)
  have q2 := dep_step h h2' (by omega)
  rw [h3] at q1
  rw [h3'] at q2
  exact pre_apart h h2 h2' (by omega) hx hx'
theorem kid_not {ts : List Blk} (h : Tree ts) {c d x : Nat} (hd : d ∈ kids ts c) (hx : x ∈ pre ts d) : x ≠ c := by
  obtain ⟨h1, h2, _⟩ := kids_above h hd
  have := (pre_up h _ d h2 (Nat.le_refl _) x hx).2.1
  omega
theorem kids_nodup (ts : List Blk) (c : Nat) : (kids ts c).Nodup := by unfold kids kidsL; exact List.Pairwise.filter _ List.nodup_range
/-- Who is below d is in no tour of d's siblings. -/
theorem not_flat {ts : List Blk} (h : Tree ts) {c d x : Nat} {l : List Nat} (hl : ∀ e, e ∈ l → e ∈ kids ts c) (hd : d ∈ kids ts c) (hdl : d ∉ l) (hx : x ∈ pre ts d) : x ∉ l.flatMap fun e => tn ts e ++ [c] := by
  intro hm
  obtain ⟨e, he, hm⟩ := List.mem_flatMap.1 hm
  obtain ⟨_, h2, _⟩ := kids_above h (hl e he)
  rw [List.mem_append] at hm
  rcases hm with hm | hm
  · have := kids_part h hd (hl e he) hx ((mem_tn h h2).1 hm)
    subst this
    exact hdl he
  · simp at hm
    exact kid_not h hd hx hm
theorem seg_kid {ts : List Blk} (h : Tree ts) {c d : Nat} (hc : c < ts.length) (hd : d ∈ kids ts c) : ∃ p s, tn ts c = p ++ tn ts d ++ s ∧ ∀ x, x ∈ pre ts d → x ∉ p ∧ x ∉ s := by
  obtain ⟨l1, l2, e⟩ := List.append_of_mem hd
  have hn := kids_nodup ts c
  rw [e, List.nodup_append, List.nodup_cons] at hn
  refine ⟨c :: l1.flatMap (fun e => tn ts e ++ [c]), [c] ++ l2.flatMap (fun e => tn ts e ++ [c]), ?_, fun x hx => ⟨?_, ?_⟩⟩
  · rw [tn_step h hc, e, List.flatMap_append, List.flatMap_cons]; simp
  · rw [List.mem_cons, not_or]
    exact ⟨kid_not h hd hx, not_flat h (fun e' he => by rw [e]; simp [he]) hd (fun hm => hn.2.2 d hm d (by simp) rfl) hx⟩
  · rw [List.mem_append, not_or]
    exact ⟨by simp; exact kid_not h hd hx, not_flat h (fun e' he => by rw [e]; simp [he]) hd hn.2.1.1 hx⟩
theorem seg_up {ts : List Blk} (h : Tree ts) {m : Nat} (hm : m < ts.length) : ∀ j, j ≤ dep ts m → ∃ p s, tn ts (anc ts m j) = p ++ tn ts m ++ s ∧ ∀ x, x ∈ pre ts m → x ∉ p ∧ x ∉ s := by
  intro j
  induction j with
  | zero => intro _; exact ⟨[], [], by simp [anc], fun x _ => ⟨by simp, by simp⟩⟩
  | succ j ih =>
    intro hj
    obtain ⟨p, s, e, hps⟩ := ih (by omega)
    have hd := dep_anc h hm j (by omega)
    have hl := anc_lt h hm j
    have h0 : anc ts m j ≠ 0 := fun e => by rw [e, dep_root] at hd; omega
    have hk : anc ts m j ∈ kids ts (anc ts m (j + 1)) := (kids_iff h).2 ⟨hl, h0, rfl⟩
    obtain ⟨p', s', e', hps'⟩ := seg_kid h (anc_lt h hm (j + 1)) hk
    refine ⟨p' ++ p, s ++ s', by rw [e', e]; simp, fun x hx => ?_⟩
    have hx' : x ∈ pre ts (anc ts m j) := by
      have hxm := (mem_pre h hm).1 hx
      obtain ⟨hxl, i, hi, ei⟩ := hxm
      refine (mem_pre h hl).2 ⟨hxl, i + j, ?_, by rw [anc_add, ei]⟩
      have := dep_anc h hxl i hi
      rw [ei] at this
      omega
    obtain ⟨a1, a2⟩ := hps x hx
    obtain ⟨b1, b2⟩ := hps' x hx'
    simp only [List.mem_append, not_or]
    exact ⟨⟨b1, a1⟩, ⟨a2, b2⟩⟩
theorem seg_root {ts : List Blk} (h : Tree ts) {m : Nat} (hm : m < ts.length) : ∃ p s, tn ts 0 = p ++ tn ts m ++ s ∧ ∀ x, x ∈ pre ts m → x ∉ p ∧ x ∉ s := by
  have := seg_up h hm (dep ts m) (Nat.le_refl _)
  rwa [anc_root h hm] at this

/-- i is the first index at which T has x. -/
def FirstAt (T : List Nat) (x i : Nat) : Prop := T[i]? = some x ∧ ∀ j, j < i → T[j]? ≠ some x
theorem first_before {u v : List Nat} {x i : Nat} (h : FirstAt (u ++ v) x i) (hx : x ∈ u) : i < u.length := by
  obtain ⟨j, hj, e⟩ := List.mem_iff_getElem.1 hx
  rcases Nat.lt_or_ge i u.length with h1 | h1
  · exact h1
  · exact absurd (by rw [List.getElem?_append_left hj, List.getElem?_eq_getElem hj, e]) (h.2 j (by omega))
theorem first_after {u v : List Nat} {x i : Nat} (h : FirstAt (u ++ v) x i) (hx : x ∉ u) : u.length ≤ i := by
  rcases Nat.lt_or_ge i u.length with h1 | h1
  · have := h.1
    rw [List.getElem?_append_left h1] at this
    exact absurd (List.mem_iff_getElem?.2 ⟨_, this⟩) hx
  · exact h1

/-- Where c comes ahead of d among m's children, m is met between them. -/
theorem sep {ts : List Blk} (h : Tree ts) {m c d : Nat} {l1 l2 : List Nat} (hm : m < ts.length) (e : kids ts m = l1 ++ c :: l2) (hd : d ∈ l2) :
    ∃ u v, tn ts m = u ++ m :: v ∧ (∀ x, x ∈ pre ts c → x ∈ u) ∧ ∀ x, x ∈ pre ts d → x ∉ u := by
  have hn := kids_nodup ts m
  rw [e, List.nodup_append, List.nodup_cons] at hn
  have hck : c ∈ kids ts m := by rw [e]; simp
  have hdk : d ∈ kids ts m := by rw [e]; simp [hd]
  obtain ⟨_, hc2, _⟩ := kids_above h hck
  refine ⟨m :: l1.flatMap (fun e => tn ts e ++ [m]) ++ tn ts c, l2.flatMap (fun e => tn ts e ++ [m]), ?_, fun x hx => ?_, fun x hx => ?_⟩
  · rw [tn_step h hm, e, List.flatMap_append, List.flatMap_cons]; simp
  · exact List.mem_append.2 (.inr ((mem_tn h hc2).2 hx))
  · rw [List.mem_append, List.mem_cons, not_or, not_or]
    refine ⟨⟨kid_not h hdk hx, not_flat h (fun e' he => by rw [e]; simp [he]) hdk (fun hl => hn.2.2 d hl d (by simp [hd]) rfl) hx⟩, fun hx' => ?_⟩
    have := kids_part h hdk hck hx ((mem_tn h hc2).1 hx')
    subst this
    exact hn.2.1.1 hd

theorem abv_pre {ts : List Blk} (h : Tree ts) {m a : Nat} (hm : m < ts.length) (ha : a < ts.length) : abv ts m a = true ↔ a ∈ pre ts m := by
  rw [abv_iff, mem_pre h hm]
  constructor
  · rintro ⟨h1, h2⟩
    exact ⟨ha, _, Nat.sub_le _ _, h2⟩
  · rintro ⟨_, j, hj, e⟩
    have := dep_anc h ha j hj
    rw [e] at this
    exact ⟨by omega, by rw [show dep ts a - dep ts m = j by omega]; exact e⟩
/-- The child of m under which a lies. -/
theorem kid_over {ts : List Blk} (h : Tree ts) {m a : Nat} (hm : m < ts.length) (ha : a ∈ pre ts m) (hne : a ≠ m) : ∃ c, c ∈ kids ts m ∧ a ∈ pre ts c := by
  rw [pre_step h hm, List.mem_cons] at ha
  rcases ha with e | ha
  · exact absurd e hne
  · obtain ⟨c, hc, hx⟩ := List.mem_flatMap.1 ha
    exact ⟨c, hc, hx⟩
theorem meet_between {ts : List Blk} (h : Tree ts) {a b fa fb : Nat} (ha : a < ts.length) (hb : b < ts.length) (h1 : FirstAt (tn ts 0) a fa) (h2 : FirstAt (tn ts 0) b fb) :
    ∃ t, (min fa fb ≤ t ∧ t ≤ max fa fb) ∧ (tn ts 0)[t]? = some (meet ts a b) := by
  have hma := meet_a h hb a ha
  have hmb := meet_b h hb a ha
  have hm := abv_lt h ha hma
  by_cases ea : a = meet ts a b
  · exact ⟨fa, by omega, by rw [← ea]; exact h1.1⟩
  · by_cases eb : b = meet ts a b
    · exact ⟨fb, by omega, by rw [← eb]; exact h2.1⟩
    · have hpa := (abv_pre h hm ha).1 hma
      have hpb := (abv_pre h hm hb).1 hmb
      obtain ⟨c, hc, hac⟩ := kid_over h hm hpa ea
      obtain ⟨d, hd, hbd⟩ := kid_over h hm hpb eb
      obtain ⟨q1, q2, q3⟩ := kids_above h hc
      obtain ⟨q1', q2', q3'⟩ := kids_above h hd
      have hcd : c ≠ d := fun e => by
        subst e
        have := meet_deepest h hb ((abv_pre h q2 hb).2 hbd) a ha ((abv_pre h q2 ha).2 hac)
        have hs := dep_step h q2 (by omega)
        rw [q3] at hs
        omega
      obtain ⟨p, s, e, hps⟩ := seg_root h hm
      obtain ⟨l1, l2, ek⟩ := List.append_of_mem hc
      have hd' := hd
      rw [ek, List.mem_append, List.mem_cons] at hd'
      rcases hd' with hd' | hd' | hd'
      · obtain ⟨l5, l6, e5⟩ := List.append_of_mem hd'
        obtain ⟨u, v, ev, hu, hv⟩ := sep h hm (c := d) (d := c) (l1 := l5) (l2 := l6 ++ c :: l2) (by rw [ek, e5]; simp) (by simp)
        have eT : tn ts 0 = (p ++ u) ++ meet ts a b :: (v ++ s) := by rw [e, ev]; simp
        rw [eT] at h1 h2
        have g1 := first_before h2 (List.mem_append.2 (.inr (hu b hbd)))
        have g2 := first_after h1 (by rw [List.mem_append, not_or]; exact ⟨(hps a hpa).1, hv a hac⟩)
        exact ⟨(p ++ u).length, by omega, by rw [eT, List.getElem?_append_right (Nat.le_refl _)]; simp⟩
      · exact absurd hd'.symm hcd
      · obtain ⟨u, v, ev, hu, hv⟩ := sep h hm ek hd'
        have eT : tn ts 0 = (p ++ u) ++ meet ts a b :: (v ++ s) := by rw [e, ev]; simp
        rw [eT] at h1 h2
        have g1 := first_before h1 (List.mem_append.2 (.inr (hu a hac)))
        have g2 := first_after h2 (by rw [List.mem_append, not_or]; exact ⟨(hps b hpb).1, hv b hbd⟩)
        exact ⟨(p ++ u).length, by omega, by rw [eT, List.getElem?_append_right (Nat.le_refl _)]; simp⟩
theorem between_in {ts : List Blk} (h : Tree ts) {m a b fa fb t y : Nat} (hm : m < ts.length) (ha : a ∈ pre ts m) (hb : b ∈ pre ts m) (h1 : FirstAt (tn ts 0) a fa) (h2 : FirstAt (tn ts 0) b fb) (ht1 : min fa fb ≤ t) (ht2 : t ≤ max fa fb) (hy : (tn ts 0)[t]? = some y) : y ∈ pre ts m := by
  obtain ⟨p, s, e, hps⟩ := seg_root h hm
  rw [e] at h1 h2 hy
  have a1 := first_after (u := p) (by rw [List.append_assoc] at h1; exact h1) (hps a ha).1
  have a2 := first_before h1 (List.mem_append.2 (.inr ((mem_tn h hm).2 ha)))
  have b1 := first_after (u := p) (by rw [List.append_assoc] at h2; exact h2) (hps b hb).1
  have b2 := first_before h2 (List.mem_append.2 (.inr ((mem_tn h hm).2 hb)))
  rw [List.getElem?_append_left (by omega), List.getElem?_append_right (by omega)] at hy
  exact (mem_tn h hm).1 (List.mem_iff_getElem?.2 ⟨_, hy⟩)

def rankZ (ts : List Blk) (x : Nat) : Int := (dep ts x : Int) * 24 + x
def ranksL (xs : List (Nat × Bool)) (ts : List Blk) : List Int := xs.map fun e => rankZ ts e.1
theorem ranksL_at {ts : List Blk} {t y : Nat} (h : (tn ts 0)[t]? = some y) : (ranksL (tour ts 0) ts)[t]?.getD 0 = rankZ ts y := by
  unfold tn at h
  rw [List.getElem?_map] at h
  obtain ⟨e, he, hy⟩ := Option.map_eq_some_iff.1 h
  unfold ranksL
  rw [List.getElem?_map, he, ← hy]; rfl
theorem rank_le {ts : List Blk} (h : Tree ts) {m y : Nat} (hm : m < ts.length) (hy : y ∈ pre ts m) : rankZ ts m ≤ rankZ ts y := by
  obtain ⟨hyl, j, hj, e⟩ := (mem_pre h hm).1 hy
  have hd := dep_anc h hyl j hj
  rw [e] at hd
  have hf := h.few
  unfold rankZ
  by_cases h0 : j = 0
  · subst h0
    have : y = m := e
    subst this
    exact Int.le_refl _
  · omega
theorem meet_least {ts : List Blk} (h : Tree ts) {a b fa fb : Nat} (ha : a < ts.length) (hb : b < ts.length) (h1 : FirstAt (tn ts 0) a fa) (h2 : FirstAt (tn ts 0) b fb) :
    minTo (ranksL (tour ts 0) ts) (min fa fb) (max fa fb + 1 - min fa fb) = rankZ ts (meet ts a b) := by
  have hma := meet_a h hb a ha
  have hmb := meet_b h hb a ha
  have hm := abv_lt h ha hma
  obtain ⟨t, ⟨t1, t2⟩, et⟩ := meet_between h ha hb h1 h2
  have q : IsMin (ranksL (tour ts 0) ts) (min fa fb) (max fa fb + 1) (rankZ ts (meet ts a b)) := by
    refine ⟨⟨t, t1, by omega, ranksL_at et⟩, fun t' h3 h4 => ?_⟩
    have hla : fa < (tn ts 0).length := (List.getElem?_eq_some_iff.1 h1.1).1
    have hlb : fb < (tn ts 0).length := (List.getElem?_eq_some_iff.1 h2.1).1
    have ht' : t' < (tn ts 0).length := by omega
    have ey : (tn ts 0)[t']? = some (tn ts 0)[t'] := List.getElem?_eq_getElem ht'
    rw [ranksL_at ey]
    exact rank_le h hm (between_in h hm ((abv_pre h hm ha).1 hma) ((abv_pre h hm hb).1 hmb) h1 h2 h3 (by omega) ey)
  obtain ⟨j, hj⟩ : ∃ j, max fa fb + 1 - min fa fb = j + 1 := ⟨max fa fb - min fa fb, by omega⟩
  have d := minTo_min (ranksL (tour ts 0) ts) (min fa fb) j
  rw [hj]
  rw [show min fa fb + (j + 1) = max fa fb + 1 by omega] at d
  exact d.uniq q
theorem rank_mod {ts : List Blk} (h : Tree ts) {m : Nat} (hm : m < ts.length) : rankZ ts m % 24 = (m : Int) := by
  have := h.few
  unfold rankZ; omega
end Go.Proofs.Ythiegfbdmmpabab
