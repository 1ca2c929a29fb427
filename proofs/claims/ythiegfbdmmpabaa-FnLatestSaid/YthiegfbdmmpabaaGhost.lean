/- What is proved here: plain facts on the weights of subtrees: adding every block to its parent, from the last one on, and its inverse; adding along a path; the heaviest child. No conditions. -/
import Derived.Test.YthiegfbdmmpabaaTours
import Derived.Test.YthiegfbdmmpabaaFen
namespace Go.Proofs.Ythiegfbdmmpabaa
open Go.RowKit

/-- What the document asks of own weights. -/
def ownB (ts : List Blk) (xs : List Int) : Bool := goodT ts && decide (xs.length = ts.length) && allB xs 0 100000
def getI (xs : List Int) (k : Nat) : Int := xs[k]?.getD 0
def addI (xs : List Int) (k : Nat) (d : Int) : List Int := xs.set k (wrap64 (getI xs k + d))
theorem addI_len (xs : List Int) (k : Nat) (d : Int) : (addI xs k d).length = xs.length := by simp [addI]
theorem addI_get {xs : List Int} {k : Nat} (d : Int) (i : Nat) (hk : k < xs.length) : getI (addI xs k d) i = if i = k then wrap64 (getI xs k + d) else getI xs i := by
  unfold addI getI
  rw [List.getElem?_set]
  by_cases h : i = k
  · subst h; simp [hk]
  · rw [if_neg (fun e => h e.symm), if_neg h]
theorem ext_I {a b : List Int} (hl : a.length = b.length) (h : ∀ k, k < a.length → getI a k = getI b k) : a = b := ext_get hl h
theorem getI_out {xs : List Int} {k : Nat} (h : xs.length ≤ k) : getI xs k = 0 := by unfold getI; rw [List.getElem?_eq_none h]; rfl
theorem I64s.get {xs : List Int} (h : I64s xs) (k : Nat) : -9223372036854775808 ≤ getI xs k ∧ getI xs k ≤ 9223372036854775807 := by
  by_cases hk : k < xs.length
  · exact h k hk
  · rw [getI_out (by omega)]; omega
theorem wrap64_bd (x : Int) : -9223372036854775808 ≤ wrap64 x ∧ wrap64 x ≤ 9223372036854775807 := by unfold wrap64; omega
theorem addI_I64 {xs : List Int} (h : I64s xs) {k : Nat} (hk : k < xs.length) (d : Int) : I64s (addI xs k d) := by
  intro i _
  show _ ≤ getI (addI xs k d) i ∧ getI (addI xs k d) i ≤ _
  rw [addI_get d i hk]
  split
  · exact wrap64_bd _
  · exact h.get i

/-- After the blocks from the last one down to k were added to their parents. -/
def subs (ts : List Blk) (xs : List Int) : Nat → List Int
  | 0 => xs
  | j + 1 => addI (subs ts xs j) (parN ts (ts.length - 1 - j)) (getI (subs ts xs j) (ts.length - 1 - j))
def sub (ts : List Blk) (xs : List Int) : List Int := subs ts xs (ts.length - 1)
theorem subs_len (ts : List Blk) (xs : List Int) (j : Nat) : (subs ts xs j).length = xs.length := by
  induction j with
  | zero => rfl
  | succ j ih => simp only [subs]; rw [addI_len, ih]
theorem sub_len (ts : List Blk) (xs : List Int) : (sub ts xs).length = xs.length := subs_len ts xs _

/-- After the blocks 1 to k - 1 were taken out of their parents. -/
def backs (ts : List Blk) (xs : List Int) : Nat → List Int
  | 0 => xs
  | k + 1 => if k = 0 then backs ts xs k else addI (backs ts xs k) (parN ts k) (-(getI xs k))
def back (ts : List Blk) (xs : List Int) : List Int := backs ts xs ts.length
theorem backs_len (ts : List Blk) (xs : List Int) (k : Nat) : (backs ts xs k).length = xs.length := by
  induction k with
  | zero => rfl
  | succ k ih =>
    simp only [backs]
    split
    · exact ih
    · rw [addI_len, ih]
theorem backs_one (ts : List Blk) (xs : List Int) : backs ts xs 1 = xs := rfl
theorem backs_step {ts : List Blk} {xs : List Int} {k : Nat} (h : k ≠ 0) : backs ts xs (k + 1) = addI (backs ts xs k) (parN ts k) (-(getI xs k)) := by
  simp only [backs]; rw [if_neg h]
theorem backs_I64 {ts : List Blk} (ht : Tree ts) {xs : List Int} (hl : xs.length = ts.length) (hx : I64s xs) : ∀ k, k ≤ ts.length → I64s (backs ts xs k) := by
  intro k
  induction k with
  | zero => intro _; exact hx
  | succ k ih =>
    intro hk
    by_cases h0 : k = 0
    · subst h0; exact hx
    · rw [backs_step h0]
      have := (ht.up (k := k) (by omega) h0).2
      exact addI_I64 (ih (by omega)) (by rw [backs_len, hl]; omega) _
/-- A block keeps its own number until its children are taken out. -/
theorem backs_high {ts : List Blk} (ht : Tree ts) {xs : List Int} (hl : xs.length = ts.length) : ∀ k, k ≤ ts.length → ∀ i, k ≤ i + 1 → getI (backs ts xs k) i = getI xs i := by
  intro k
  induction k with
  | zero => intro _ i _; rfl
  | succ k ih =>
    intro hk i hi
    by_cases h0 : k = 0
    · subst h0; rfl
    · have hp := (ht.up (k := k) (by omega) h0).2
      rw [backs_step h0, addI_get _ i (by rw [backs_len, hl]; omega), if_neg (by omega)]
      exact ih (by omega) i (by omega)
theorem subs_backs {ts : List Blk} (ht : Tree ts) {xs : List Int} (hl : xs.length = ts.length) (hx : I64s xs) : ∀ j, j ≤ ts.length - 1 → subs ts (back ts xs) j = backs ts xs (ts.length - j) := by
  intro j
  induction j with
  | zero => intro _; rfl
  | succ j ih =>
    intro hj
    have ih := ih (by omega)
    simp only [subs]
    rw [ih]
    obtain ⟨k, hk⟩ : ∃ k, ts.length - 1 - j = k := ⟨_, rfl⟩
    have hk0 : k ≠ 0 := by omega
    rw [hk, show ts.length - j = k + 1 by omega, show ts.length - (j + 1) = k by omega]
    have hp := (ht.up (k := k) (by omega) hk0).2
    have hlk : (backs ts xs k).length = ts.length := by rw [backs_len, hl]
    rw [backs_high ht hl (k + 1) (by omega) k (by omega)]
    rw [backs_step hk0]
    refine ext_I (by rw [addI_len, addI_len]) (fun i _ => ?_)
    rw [addI_get _ i (by rw [addI_len, hlk]; omega), addI_get _ _ (by rw [hlk]; omega), addI_get _ i (by rw [hlk]; omega), if_pos rfl]
    have hb := (backs_I64 ht hl hx k (by omega)).get (parN ts k)
    by_cases e : i = parN ts k
    · rw [if_pos e, e]
      unfold wrap64
      omega
    · rw [if_neg e, if_neg e]
theorem sub_back {ts : List Blk} (ht : Tree ts) {xs : List Int} (hl : xs.length = ts.length) (hx : I64s xs) : sub ts (back ts xs) = xs := by
  have := subs_backs ht hl hx (ts.length - 1) (Nat.le_refl _)
  unfold sub
  rw [this, show ts.length - (ts.length - 1) = 1 by have := ht.pos; omega]
  rfl

/-- One number changed: one block's own number and its parent's. -/
theorem backs_add {ts : List Blk} (ht : Tree ts) {xs : List Int} (hl : xs.length = ts.length) (hx : I64s xs) {b : Nat} (hb : b < ts.length) (d : Int) : ∀ k, k ≤ ts.length → ∀ i,
    getI (backs ts (addI xs b d) k) i = wrap64 (getI (backs ts xs k) i + (if i = b then d else 0) - (if b < k ∧ b ≠ 0 ∧ parN ts b = i then d else 0)) := by
  intro k
  have w0 : ∀ y, -9223372036854775808 ≤ y → y ≤ 9223372036854775807 → y = wrap64 y := fun y _ _ => by unfold wrap64; omega
  have base : ∀ i, getI (addI xs b d) i = wrap64 (getI xs i + (if i = b then d else 0)) := fun i => by
    rw [addI_get d i (by rw [hl]; exact hb)]
    by_cases e : i = b
    · rw [if_pos e, if_pos e, e]
    · rw [if_neg e, if_neg e, Int.add_zero]
      exact w0 _ (hx.get i).1 (hx.get i).2
  induction k with
  | zero =>
    intro _ i
    rw [if_neg (show ¬ (b < 0 ∧ b ≠ 0 ∧ parN ts b = i) by omega), Int.sub_zero]
    exact base i
  | succ k ih =>
    intro hk i
    by_cases h0 : k = 0
    · subst h0
      rw [if_neg (show ¬ (b < 0 + 1 ∧ b ≠ 0 ∧ parN ts b = i) by omega), Int.sub_zero]
      exact base i
    · have hp := (ht.up (k := k) (by omega) h0).2
      rw [backs_step h0, backs_step h0]
      rw [addI_get _ i (by rw [backs_len, addI_len, hl]; omega), addI_get _ i (by rw [backs_len, hl]; omega)]
      have ih' := ih (by omega)
      by_cases e : i = parN ts k
      · rw [if_pos e, if_pos e, ← e, ih' i, base k]
        by_cases ebk : b = k
        · subst ebk
          rw [if_neg (show ¬ (b < b ∧ b ≠ 0 ∧ parN ts b = i) by omega), if_pos (show b < b + 1 ∧ b ≠ 0 ∧ parN ts b = i from ⟨by omega, h0, e.symm⟩), if_pos rfl]
          generalize (if i = b then d else 0) = q
          generalize getI (backs ts xs b) i = y
          generalize getI xs b = z
          unfold wrap64
          omega
        · rw [if_neg (show ¬ k = b from fun e' => ebk e'.symm)]
          have hc : (b < k ∧ b ≠ 0 ∧ parN ts b = i) ↔ (b < k + 1 ∧ b ≠ 0 ∧ parN ts b = i) := by omega
          simp only [hc]
          generalize (if i = b then d else 0) = q
          generalize (if b < k + 1 ∧ b ≠ 0 ∧ parN ts b = i then d else 0) = q'
          generalize getI (backs ts xs k) i = y
          generalize hz : getI xs k = z
          have := hx.get k
          unfold wrap64
          omega
      · rw [if_neg e, if_neg e, ih' i]
        by_cases ebk : b = k
        · subst ebk
          rw [if_neg (show ¬ (b < b ∧ b ≠ 0 ∧ parN ts b = i) by omega), if_neg (show ¬ (b < b + 1 ∧ b ≠ 0 ∧ parN ts b = i) from fun h => e h.2.2.symm)]
        · have hc : (b < k ∧ b ≠ 0 ∧ parN ts b = i) ↔ (b < k + 1 ∧ b ≠ 0 ∧ parN ts b = i) := by omega
          simp only [hc]

/-- Adding d to a block and to all that are above it, over at most f steps. -/
def pathF (ts : List Blk) (d : Int) : Nat → List Int → Nat → List Int
  | 0, xs, b => addI xs b d
  | f + 1, xs, b => if b = 0 then addI xs b d else pathF ts d f (addI xs b d) (parN ts b)
def pathA (ts : List Blk) (xs : List Int) (b : Nat) (d : Int) : List Int := pathF ts d b xs b
theorem pathF_len (ts : List Blk) (d : Int) : ∀ f xs b, (pathF ts d f xs b).length = xs.length := by
  intro f
  induction f with
  | zero => intro xs b; simp only [pathF]; rw [addI_len]
  | succ f ih =>
    intro xs b
    simp only [pathF]
    split
    · rw [addI_len]
    · rw [ih, addI_len]
theorem pathF_enough {ts : List Blk} (ht : Tree ts) (d : Int) : ∀ f g xs b, b < ts.length → b ≤ f → b ≤ g → pathF ts d f xs b = pathF ts d g xs b := by
  intro f
  induction f with
  | zero =>
    intro g xs b _ hf _
    have : b = 0 := by omega
    subst this
    cases g <;> simp [pathF]
  | succ f ih =>
    intro g xs b hb hf hg
    by_cases h0 : b = 0
    · subst h0; cases g <;> simp [pathF]
    · have hp := (ht.up hb h0).2
      obtain ⟨g, rfl⟩ : ∃ g', g = g' + 1 := ⟨g - 1, by omega⟩
      simp only [pathF, if_neg h0]
      exact ih g _ _ (by omega) (by omega) (by omega)
theorem pathA_root (ts : List Blk) (xs : List Int) (d : Int) : pathA ts xs 0 d = addI xs 0 d := rfl
theorem pathA_step {ts : List Blk} (ht : Tree ts) (xs : List Int) {b : Nat} (hb : b < ts.length) (h0 : b ≠ 0) (d : Int) : pathA ts xs b d = pathA ts (addI xs b d) (parN ts b) d := by
  have hp := (ht.up hb h0).2
  obtain ⟨m, rfl⟩ : ∃ m, b = m + 1 := ⟨b - 1, by omega⟩
  show pathF ts d (m + 1) xs (m + 1) = _
  simp only [pathF, if_neg h0]
  exact pathF_enough ht d _ _ _ _ (by omega) (by omega) (Nat.le_refl _)
theorem pathA_len (ts : List Blk) (xs : List Int) (b : Nat) (d : Int) : (pathA ts xs b d).length = xs.length := pathF_len ts d _ _ _
theorem back_path {ts : List Blk} (ht : Tree ts) (d : Int) : ∀ b, b < ts.length → ∀ xs : List Int, xs.length = ts.length → I64s xs → back ts (pathA ts xs b d) = addI (back ts xs) b d ∧ I64s (pathA ts xs b d) := by
  intro b
  induction b using Nat.strongRecOn with
  | ind b ih =>
    intro hb xs hl hx
    have hI := addI_I64 hx (k := b) (by omega) d
    by_cases h0 : b = 0
    · subst h0
      rw [pathA_root]
      refine ⟨?_, hI⟩
      refine ext_I (by unfold back; rw [backs_len, addI_len, addI_len, backs_len]) (fun i _ => ?_)
      unfold back
      rw [backs_add ht hl hx hb d _ (Nat.le_refl _) i, addI_get _ i (by rw [backs_len, hl]; exact hb), if_neg (by omega : ¬ (0 < ts.length ∧ (0 : Nat) ≠ 0 ∧ parN ts 0 = i)), Int.sub_zero]
      have hz := (backs_I64 ht hl hx _ (Nat.le_refl _)).get i
      by_cases e : i = 0
      · rw [if_pos e, if_pos e, e]
      · rw [if_neg e, if_neg e, Int.add_zero]; unfold wrap64; omega
    · have hp := (ht.up hb h0).2
      rw [pathA_step ht xs hb h0]
      obtain ⟨e1, e2⟩ := ih (parN ts b) hp (by omega) (addI xs b d) (by rw [addI_len, hl]) hI
      refine ⟨?_, e2⟩
      rw [e1]
      refine ext_I (by unfold back; rw [addI_len, backs_len, addI_len, addI_len, backs_len]) (fun i _ => ?_)
      rw [addI_get _ i (by unfold back; rw [backs_len, addI_len, hl]; omega), addI_get _ i (by unfold back; rw [backs_len, hl]; omega)]
      unfold back
      rw [backs_add ht hl hx hb d _ (Nat.le_refl _) i, backs_add ht hl hx hb d _ (Nat.le_refl _) (parN ts b)]
      have hz := (backs_I64 ht hl hx _ (Nat.le_refl _)).get i
      by_cases e : i = parN ts b
      · subst e
        simp only [if_true, if_neg (show ¬ parN ts b = b by omega), if_pos (show b < ts.length ∧ b ≠ 0 ∧ True from ⟨hb, h0, trivial⟩)]
        unfold wrap64; omega
      · rw [if_neg e]
        by_cases eb : i = b
        · rw [if_pos eb, if_pos eb, if_neg (fun h => e h.2.2.symm), Int.sub_zero, eb]
        · rw [if_neg eb, if_neg eb, if_neg (fun h => e h.2.2.symm), Int.sub_zero, Int.add_zero]
          unfold wrap64; omega
/-- The weights of the subtrees after one own weight has changed. -/
theorem sub_path {ts : List Blk} (ht : Tree ts) (d : Int) {b : Nat} (hb : b < ts.length) {xs : List Int} (hl : xs.length = ts.length) (hx : I64s xs) : sub ts (addI (back ts xs) b d) = pathA ts xs b d := by
  obtain ⟨e1, e2⟩ := back_path ht d b hb xs hl hx
  rw [← e1, sub_back ht (by rw [pathA_len, hl]) e2]

/-- The child that is chosen: the heaviest, of several the last one. -/
def bestL (S : Nat → Int) (l : List Nat) : Int := l.foldl (fun m k => if m < 0 ∨ S m.toNat ≤ S k then (k : Int) else m) (-1)
theorem bestL_nil (S : Nat → Int) : bestL S [] = -1 := rfl
theorem bestL_snoc (S : Nat → Int) (l : List Nat) (k : Nat) : bestL S (l ++ [k]) = if bestL S l < 0 ∨ S (bestL S l).toNat ≤ S k then (k : Int) else bestL S l := by
  unfold bestL; rw [List.foldl_append]; rfl
/-- No other is preferred. -/
def pref (S : Nat → Int) (a b : Nat) : Bool := decide (S b < S a) || (S a == S b && decide (b < a))
theorem best_kids (ts : List Blk) (S : Nat → Int) (b : Nat) : ∀ k, (kidsL ts b k = [] ∧ bestL S (kidsL ts b k) = -1) ∨ ∃ m : Nat, bestL S (kidsL ts b k) = m ∧ m ∈ kidsL ts b k ∧ ∀ x, x ∈ kidsL ts b k → pref S x m = false := by
  intro k
  induction k with
  | zero => exact .inl ⟨rfl, rfl⟩
  | succ k ih =>
    by_cases hp : parZ ts k = b
    · right
      rw [kids_yes hp, bestL_snoc]
      have hlt : ∀ x, x ∈ kidsL ts b k → x < k := fun x hx => (kids_mem.1 hx).1
      rcases ih with ⟨e1, e2⟩ | ⟨m, e1, e2, e3⟩
      · refine ⟨k, by rw [e2, if_pos (.inl (by decide))], by simp, fun x hx => ?_⟩
        rw [e1] at hx
        simp at hx
        subst hx
        simp [pref]
      · rw [e1, Int.toNat_natCast]
        by_cases hc : S m ≤ S k
        · refine ⟨k, by rw [if_pos (.inr hc)], by simp, fun x hx => ?_⟩
          rw [List.mem_append] at hx
          rcases hx with hx | hx
          · have h1 := e3 x hx
            have h2 := hlt x hx
            simp only [pref, Bool.or_eq_false_iff, decide_eq_false_iff_not, Bool.and_eq_false_iff] at h1 ⊢
            exact ⟨by omega, .inr (by omega)⟩
          · simp at hx
            subst hx
            simp [pref]
        · refine ⟨m, by rw [if_neg (by omega)], by simp [e2], fun x hx => ?_⟩
          rw [List.mem_append] at hx
          rcases hx with hx | hx
          · exact e3 x hx
          · simp at hx
            subst hx
            have h2 := hlt m e2
            simp only [pref, Bool.or_eq_false_iff, decide_eq_false_iff_not, Bool.and_eq_false_iff]
            refine ⟨by omega, .inl ?_⟩
            simp
            omega
    · rw [kids_no hp]; exact ih
theorem pref_total (S : Nat → Int) {a b : Nat} (h1 : pref S a b = false) (h2 : pref S b a = false) : a = b := by
  simp only [pref, Bool.or_eq_false_iff, decide_eq_false_iff_not, Bool.and_eq_false_iff] at h1 h2
  have e : S a = S b := by omega
  rcases h1.2 with h | h
  · rw [e] at h; simp at h
  · rcases h2.2 with h' | h'
    · rw [e] at h'; simp at h'
    · omega
theorem best_iff {ts : List Blk} {S : Nat → Int} {b k c : Nat} (hc : c ∈ kidsL ts b k) : bestL S (kidsL ts b k) = (c : Int) ↔ ∀ x, x ∈ kidsL ts b k → pref S x c = false := by
  rcases best_kids ts S b k with ⟨e1, _⟩ | ⟨m, e1, e2, e3⟩
  · rw [e1] at hc; cases hc
  · constructor
    · intro e
      rw [e1] at e
      have : m = c := by omega
      rw [← this]; exact e3
    · intro h
      rw [e1, pref_total S (h m e2) (e3 c hc)]

/-- The head below a block, over at most f steps. -/
def headF (ts : List Blk) (S : Nat → Int) : Nat → Nat → Nat
  | 0, b => b
  | f + 1, b => if bestL S (kids ts b) < 0 then b else headF ts S f (bestL S (kids ts b)).toNat
def headZ (ts : List Blk) (S : Nat → Int) (b : Nat) : Nat := headF ts S (ts.length - b) b
theorem best_up {ts : List Blk} (ht : Tree ts) (S : Nat → Int) {b : Nat} (h : ¬ bestL S (kids ts b) < 0) : b < (bestL S (kids ts b)).toNat ∧ (bestL S (kids ts b)).toNat < ts.length := by
  rcases best_kids ts S b ts.length with ⟨_, e⟩ | ⟨m, e1, e2, _⟩
  · unfold kids at h; rw [e] at h; omega
  · unfold kids; rw [e1, Int.toNat_natCast]
    have := kids_above ht e2
    exact ⟨this.1, this.2.1⟩
theorem headF_enough {ts : List Blk} (ht : Tree ts) (S : Nat → Int) : ∀ f g b, b < ts.length → ts.length - b ≤ f → ts.length - b ≤ g → headF ts S f b = headF ts S g b := by
  intro f
  induction f with
  | zero => intro g b hb hf _; omega
  | succ f ih =>
    intro g b hb hf hg
    obtain ⟨g, rfl⟩ : ∃ g', g = g' + 1 := ⟨g - 1, by omega⟩
    simp only [headF]
    split
    · rfl
    · next h =>
      have := best_up ht S h
      exact ih g _ this.2 (by omega) (by omega)
theorem headZ_leaf {ts : List Blk} (S : Nat → Int) {b : Nat} (hb : b < ts.length) (h : bestL S (kids ts b) = -1) : headZ ts S b = b := by
  unfold headZ
  obtain ⟨f, hf⟩ : ∃ f, ts.length - b = f + 1 := ⟨ts.length - b - 1, by omega⟩
  rw [hf]
  simp only [headF]
  rw [if_pos (by rw [h]; decide)]
theorem headZ_step {ts : List Blk} (ht : Tree ts) (S : Nat → Int) {b m : Nat} (hb : b < ts.length) (h : bestL S (kids ts b) = (m : Int)) : headZ ts S b = headZ ts S m := by
  have hu := best_up ht S (b := b) (by rw [h]; omega)
  rw [h, Int.toNat_natCast] at hu
  unfold headZ
  obtain ⟨f, hf⟩ : ∃ f, ts.length - b = f + 1 := ⟨ts.length - b - 1, by omega⟩
  rw [hf]
  simp only [headF]
  rw [if_neg (by rw [h]; omega), h, Int.toNat_natCast]
  exact headF_enough ht S _ _ _ hu.2 (by omega) (Nat.le_refl _)
theorem headZ_lt {ts : List Blk} (ht : Tree ts) (S : Nat → Int) {b : Nat} (hb : b < ts.length) : headZ ts S b < ts.length := by
  have : ∀ f b, b < ts.length → headF ts S f b < ts.length := by
    intro f
    induction f with
    | zero => intro b hb; exact hb
    | succ f ih =>
      intro b hb
      simp only [headF]
      split
      · exact hb
      · next h => exact ih _ (best_up ht S h).2
  exact this _ _ hb

/-- The greatest weight of another child. -/
def mostL (S : Nat → Int) (b : Nat) (l : List Nat) : Int := l.foldl (fun m k => if k ≠ b ∧ m < S k then S k else m) 0
theorem mostL_nil (S : Nat → Int) (b : Nat) : mostL S b [] = 0 := rfl
theorem mostL_snoc (S : Nat → Int) (b : Nat) (l : List Nat) (k : Nat) : mostL S b (l ++ [k]) = if k ≠ b ∧ mostL S b l < S k then S k else mostL S b l := by
  unfold mostL; rw [List.foldl_append]; rfl
end Go.Proofs.Ythiegfbdmmpabaa
