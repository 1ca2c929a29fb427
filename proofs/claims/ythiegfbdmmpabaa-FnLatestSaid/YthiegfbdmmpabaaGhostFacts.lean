/- What is proved here: plain facts on the weights of subtrees: their bounds, the sum at the root, what AddWeight, MoveVote, IsHeaviest and MarginAt return. No conditions. -/
import Derived.Test.YthiegfbdmmpabaaGhost
import Derived.Test.YthiegfbdmmpabaaWays
namespace Go.Proofs.Ythiegfbdmmpabaa
open Go.RowKit

def sumI (f : Nat → Int) : Nat → Int
  | 0 => 0
  | k + 1 => sumI f k + f k
theorem sumI_congr {f g : Nat → Int} {k : Nat} (h : ∀ i, i < k → g i = f i) : sumI g k = sumI f k := by
  induction k with
  | zero => rfl
  | succ k ih => simp only [sumI]; rw [ih (fun i hi => h i (by omega)), h k (by omega)]
theorem sumI_upd {f g : Nat → Int} {p k : Nat} {d : Int} (hp : p < k) (h : ∀ i, g i = if i = p then f p + d else f i) : sumI g k = sumI f k + d := by
  induction k with
  | zero => omega
  | succ k ih =>
    simp only [sumI]
    by_cases e : p = k
    · subst e
      rw [sumI_congr (f := f) (fun i hi => by rw [h i, if_neg (by omega)]), h p, if_pos rfl]; omega
    · rw [ih (by omega), h k, if_neg (fun e' => e e'.symm)]; omega
theorem sumI_nonneg {f : Nat → Int} {k : Nat} (h : ∀ i, 0 ≤ f i) : 0 ≤ sumI f k := by
  induction k with
  | zero => exact Int.le_refl _
  | succ k ih => simp only [sumI]; have := h k; omega
theorem sumI_one {f : Nat → Int} {k i : Nat} (h : ∀ i, 0 ≤ f i) (hi : i < k) : f i ≤ sumI f k := by
  induction k with
  | zero => omega
  | succ k ih =>
    simp only [sumI]
    by_cases e : i = k
    · subst e; have := sumI_nonneg (k := i) h; omega
    · have := ih (by omega); have := h k; omega
theorem sumI_max {f : Nat → Int} {k : Nat} {M : Int} (h : ∀ i, f i ≤ M) : sumI f k ≤ k * M := by
  induction k with
  | zero => simp [sumI]
  | succ k ih =>
    simp only [sumI]
    have := h k
    rw [Int.natCast_add, Int.add_mul]; omega

theorem ownB_iff {ts : List Blk} {xs : List Int} : ownB ts xs = true ↔ Tree ts ∧ xs.length = ts.length ∧ allB xs 0 100000 = true := by
  unfold ownB
  rw [Bool.and_eq_true, Bool.and_eq_true, decide_eq_true_iff, goodT_iff, and_assoc]
theorem allB_at {xs : List Int} {lo hi : Int} (h : allB xs lo hi = true) (k : Nat) (hk : k < xs.length) : lo ≤ getI xs k ∧ getI xs k ≤ hi := by
  unfold allB at h
  rw [List.all_eq_true] at h
  have := h xs[k] (List.getElem_mem hk)
  unfold getI
  rw [List.getElem?_eq_getElem hk]
  exact inB_iff.1 this
theorem allB_ofI {xs : List Int} {lo hi : Int} (h : ∀ k, k < xs.length → lo ≤ getI xs k ∧ getI xs k ≤ hi) : allB xs lo hi = true := by
  unfold allB
  rw [List.all_eq_true]
  intro x hx
  obtain ⟨k, hk, rfl⟩ := List.getElem_of_mem hx
  have := h k hk
  unfold getI at this
  rw [List.getElem?_eq_getElem hk] at this
  exact inB_iff.2 this
theorem allB_all {xs : List Int} {hi : Int} (hh : 0 ≤ hi) (h : allB xs 0 hi = true) (k : Nat) : 0 ≤ getI xs k ∧ getI xs k ≤ hi := by
  by_cases hk : k < xs.length
  · exact allB_at h k hk
  · rw [getI_out (by omega)]; exact ⟨Int.le_refl _, hh⟩
theorem own_I64 {xs : List Int} (h : allB xs 0 100000 = true) : I64s xs := fun k hk => by
  have := allB_at h k hk
  unfold getI at this
  omega

theorem subs_bd {ts : List Blk} (ht : Tree ts) {xs : List Int} (hl : xs.length = ts.length) (ha : allB xs 0 100000 = true) : ∀ j, j ≤ ts.length - 1 →
    (∀ i, 0 ≤ getI (subs ts xs j) i) ∧ sumI (getI (subs ts xs j)) (ts.length - j) = sumI (getI xs) ts.length ∧ ∀ i, getI (subs ts xs j) i ≤ sumI (getI xs) ts.length := by
  have hall := allB_all (by decide) ha
  have hT : sumI (getI xs) ts.length ≤ 2400000 := by
    have h1 := sumI_max (k := ts.length) (f := getI xs) (M := 100000) (fun i => (hall i).2)
    have h2 := ht.few
    omega
  intro j
  induction j with
  | zero =>
    intro _
    refine ⟨fun i => (hall i).1, rfl, fun i => ?_⟩
    by_cases hi : i < ts.length
    · exact sumI_one (f := getI xs) (fun i => (hall i).1) hi
    · show getI xs i ≤ _
      rw [getI_out (by omega)]; exact sumI_nonneg (fun i => (hall i).1)
  | succ j ih =>
    intro hj
    obtain ⟨h1, h2, h3⟩ := ih (by omega)
    obtain ⟨k, hk⟩ : ∃ k, ts.length - 1 - j = k := ⟨_, rfl⟩
    have hp := (ht.up (k := k) (by omega) (by omega)).2
    have hs : subs ts xs (j + 1) = addI (subs ts xs j) (parN ts k) (getI (subs ts xs j) k) := by rw [← hk]; rfl
    have hle : (subs ts xs j).length = ts.length := by rw [subs_len, hl]
    rw [show ts.length - j = k + 1 by omega] at h2
    simp only [sumI] at h2
    have hpk := sumI_one (f := getI (subs ts xs j)) h1 hp
    have hg : ∀ i, getI (subs ts xs (j + 1)) i = if i = parN ts k then getI (subs ts xs j) (parN ts k) + getI (subs ts xs j) k else getI (subs ts xs j) i := by
      intro i
      rw [hs, addI_get _ i (by omega)]
      have a1 := h1 (parN ts k); have a2 := h1 k
      split
      · unfold wrap64; omega
      · rfl
    refine ⟨fun i => ?_, ?_, fun i => ?_⟩
    · rw [hg i]; have a1 := h1 (parN ts k); have a2 := h1 k; have a3 := h1 i
      split <;> omega
    · rw [show ts.length - (j + 1) = k by omega, sumI_upd hp hg]; exact h2
    · rw [hg i]; have a3 := h3 i
      split <;> omega
theorem sub_bd {ts : List Blk} (ht : Tree ts) {xs : List Int} (hl : xs.length = ts.length) (ha : allB xs 0 100000 = true) (i : Nat) : 0 ≤ getI (sub ts xs) i ∧ getI (sub ts xs) i ≤ 2400000 := by
  obtain ⟨h1, _, h3⟩ := subs_bd ht hl ha (ts.length - 1) (Nat.le_refl _)
  refine ⟨h1 i, Int.le_trans (h3 i) ?_⟩
  have h1 := sumI_max (k := ts.length) (f := getI xs) (M := 100000) (fun i => (allB_all (by decide) ha i).2)
  have h2 := ht.few
  omega
/-- The root's weight is the sum of all. -/
theorem sub_root {ts : List Blk} (ht : Tree ts) {xs : List Int} (hl : xs.length = ts.length) (ha : allB xs 0 100000 = true) : getI (sub ts xs) 0 = sumI (getI xs) ts.length := by
  obtain ⟨_, h2, _⟩ := subs_bd ht hl ha (ts.length - 1) (Nat.le_refl _)
  have := ht.pos
  rw [show ts.length - (ts.length - 1) = 1 by omega] at h2
  unfold sub
  simpa [sumI] using h2

def subR (ts : List Blk) (xs : List Int) : List Int := if ownB ts xs = true then sub ts xs else []
theorem subR_len (ts : List Blk) (xs : List Int) : (subR ts xs).length ≤ 100 := by
  unfold subR
  split
  · next h => obtain ⟨ht, hl, _⟩ := ownB_iff.1 h; rw [sub_len, hl]; have := ht.few; omega
  · exact Nat.zero_le _

/-- What AddWeight returns. -/
def backOk (ts : List Blk) (xs : List Int) : Bool := goodT ts && decide (xs.length = ts.length) && allB (back ts xs) 0 100000
theorem backOk_iff {ts : List Blk} {xs : List Int} : backOk ts xs = true ↔ Tree ts ∧ xs.length = ts.length ∧ allB (back ts xs) 0 100000 = true := by
  unfold backOk
  rw [Bool.and_eq_true, Bool.and_eq_true, decide_eq_true_iff, goodT_iff, and_assoc]
def addWOk (ts : List Blk) (xs : List Int) (b d : Int) : Bool := backOk ts xs && inB b 0 (ts.length - 1) && inB d (-(getI (back ts xs) b.toNat)) (100000 - getI (back ts xs) b.toNat)
def addWR (ts : List Blk) (xs : List Int) (b d : Int) : List Int := if addWOk ts xs b d = true then pathA ts xs b.toNat d else []
theorem addWR_len (ts : List Blk) (xs : List Int) (b d : Int) : (addWR ts xs b d).length ≤ 100 := by
  unfold addWR
  split
  · next h =>
    unfold addWOk at h
    rw [Bool.and_eq_true, Bool.and_eq_true] at h
    obtain ⟨ht, hl, _⟩ := backOk_iff.1 h.1.1
    rw [pathA_len, hl]; have := ht.few; omega
  · exact Nat.zero_le _
theorem back_len (ts : List Blk) (xs : List Int) : (back ts xs).length = xs.length := backs_len ts xs _
/-- The sub weights of bounded own weights are bounded: the model's first look at them refuses none. -/
theorem back_bd {ts : List Blk} {xs : List Int} (hx : I64s xs) (h : backOk ts xs = true) : allB xs 0 2400000 = true := by
  obtain ⟨ht, hl, ha⟩ := backOk_iff.1 h
  refine allB_ofI fun k hk => ?_
  have := sub_bd ht (xs := back ts xs) (by rw [back_len, hl]) ha k
  rwa [sub_back ht hl hx] at this
/-- The changed own weights. -/
theorem add_own {ts : List Blk} {xs : List Int} (h : backOk ts xs = true) {b : Nat} (hb : b < ts.length) {d : Int} (hd : inB d (-100000) 100000 = true) :
    ownB ts (addI (back ts xs) b d) = inB d (-(getI (back ts xs) b)) (100000 - getI (back ts xs) b) := by
  obtain ⟨ht, hl, ha⟩ := backOk_iff.1 h
  obtain ⟨d0, d1⟩ := inB_iff.1 hd
  have hlb : (back ts xs).length = ts.length := by rw [back_len, hl]
  have hbb := allB_at ha b (by omega)
  have hg : ∀ i, getI (addI (back ts xs) b d) i = if i = b then getI (back ts xs) b + d else getI (back ts xs) i := fun i => by
    rw [addI_get d i (by omega)]
    split
    · unfold wrap64; omega
    · rfl
  cases hc : inB d (-(getI (back ts xs) b)) (100000 - getI (back ts xs) b)
  · unfold ownB
    have : allB (addI (back ts xs) b d) 0 100000 = false := by
      cases hx : allB (addI (back ts xs) b d) 0 100000
      · rfl
      · have := allB_at hx b (by rw [addI_len]; omega)
        rw [hg b, if_pos rfl] at this
        rw [inB_true (by omega) (by omega)] at hc
        cases hc
    rw [this]; simp
  · obtain ⟨c0, c1⟩ := inB_iff.1 hc
    refine ownB_iff.2 ⟨ht, by rw [addI_len, hlb], allB_ofI fun k hk => ?_⟩
    rw [addI_len] at hk
    rw [hg k]
    split
    · omega
    · exact allB_at ha k hk
theorem add_small {ts : List Blk} {xs : List Int} (h : backOk ts xs = true) {b : Nat} (hb : b < ts.length) {d : Int} (hd : inB d (-(getI (back ts xs) b)) (100000 - getI (back ts xs) b) = true) : inB d (-100000) 100000 = true := by
  obtain ⟨ht, hl, ha⟩ := backOk_iff.1 h
  have hbb := allB_at ha b (by rw [back_len]; omega)
  obtain ⟨c0, c1⟩ := inB_iff.1 hd
  exact inB_true (by omega) (by omega)

/-- What MoveVote returns. -/
def mvL (xs : List Int) (f t by_ : Int) : List Int := addI (addI xs f.toNat (-by_)) t.toNat by_
def mvOk (ts : List Blk) (xs : List Int) (f t by_ : Int) : Bool := ownB ts xs && inB f 0 (ts.length - 1) && inB t 0 (ts.length - 1) && inB by_ 0 100000 && ownB ts (mvL xs f t by_)
def mvR (ts : List Blk) (xs : List Int) (f t by_ : Int) : List Int := if mvOk ts xs f t by_ = true then mvL xs f t by_ else []
theorem mvL_len (xs : List Int) (f t by_ : Int) : (mvL xs f t by_).length = xs.length := by unfold mvL; rw [addI_len, addI_len]
theorem mvR_len (ts : List Blk) (xs : List Int) (f t by_ : Int) : (mvR ts xs f t by_).length ≤ 100 := by
  unfold mvR
  split
  · next h =>
    unfold mvOk at h
    simp only [Bool.and_eq_true] at h
    obtain ⟨ht, hl, _⟩ := ownB_iff.1 h.1.1.1.1
    rw [mvL_len, hl]; have := ht.few; omega
  · exact Nat.zero_le _

/-- No other child of the parent of b is preferred to b. -/
def chos (ts : List Blk) (S : Nat → Int) (b : Nat) : Bool := (List.range ts.length).all fun x => !(parZ ts x == parZ ts b && pref S x b)
theorem chos_iff {ts : List Blk} {S : Nat → Int} {b : Nat} : chos ts S b = true ↔ ∀ x, x < ts.length → parZ ts x = parZ ts b → pref S x b = false := by
  unfold chos
  rw [List.all_eq_true]
  constructor
  · intro h x hx hp
    have := h x (List.mem_range.2 hx)
    simp [hp] at this
    exact this
  · intro h x hx
    rw [List.mem_range] at hx
    by_cases hp : parZ ts x = parZ ts b
    · rw [h x hx hp]; simp
    · have : (parZ ts x == parZ ts b) = false := by simp [hp]
      rw [this]; rfl
theorem chos_no {ts : List Blk} {S : Nat → Int} {b x : Nat} (hx : x < ts.length) (hp : parZ ts x = parZ ts b) (h : pref S x b = true) : chos ts S b = false := by
  cases hc : chos ts S b
  · rfl
  · rw [chos_iff.1 hc x hx hp] at h; cases h
theorem chos_best {ts : List Blk} (ht : Tree ts) (S : Nat → Int) {b : Nat} (hb : b < ts.length) (h0 : b ≠ 0) : chos ts S b = decide (bestL S (kids ts (parN ts b)) = (b : Int)) := by
  have hp := ht.up hb h0
  have hm : b ∈ kidsL ts (parN ts b) ts.length := kids_mem.2 ⟨hb, hp.1⟩
  have hi := best_iff (S := S) hm
  have e : chos ts S b = true ↔ bestL S (kids ts (parN ts b)) = (b : Int) := by
    unfold kids
    rw [hi, chos_iff]
    constructor
    · intro h x hx
      have := kids_mem.1 hx
      exact h x this.1 (by rw [this.2, hp.1])
    · intro h x hx hpx
      exact h x (kids_mem.2 ⟨hx, by rw [hpx, hp.1]⟩)
  cases hc : chos ts S b
  · symm; rw [decide_eq_false_iff_not]; intro h; rw [e.2 h] at hc; cases hc
  · symm; rw [decide_eq_true_iff]; exact e.1 hc
/-- The chosen child of a block, if it has children. -/
theorem best_chos {ts : List Blk} (ht : Tree ts) (S : Nat → Int) {p k : Nat} (hk : k < ts.length) (hp : parZ ts k = p) (hc : chos ts S k = true) : bestL S (kids ts p) = (k : Int) := by
  have h0 : k ≠ 0 := fun e => by subst e; rw [ht.root] at hp; omega
  have := ht.up hk h0
  have e : parN ts k = p := by omega
  rw [chos_best ht S hk h0, e, decide_eq_true_iff] at hc
  exact hc
theorem best_none {ts : List Blk} (ht : Tree ts) (S : Nat → Int) {p : Nat} (h : ∀ k, p < k → k < ts.length → parZ ts k = p → chos ts S k = false) : bestL S (kids ts p) = -1 := by
  rcases best_kids ts S p ts.length with ⟨_, e⟩ | ⟨m, e1, e2, e3⟩
  · exact e
  · obtain ⟨h1, h2⟩ := kids_mem.1 e2
    have hu := kids_above ht e2
    have h0 : m ≠ 0 := by omega
    have := h m hu.1 h1 h2
    rw [chos_best ht S h1 h0, hu.2.2] at this
    unfold kids at this
    rw [e1] at this
    simp at this

def getS (xs : List Int) : Nat → Int := fun k => getI xs k
def headOK (ts : List Blk) (xs : List Int) (b : Int) : Bool := ownB ts xs && inB b 0 (ts.length - 1)
def headHR (ts : List Blk) (xs : List Int) (b : Int) : Int := if headOK ts xs b = true then (headZ ts (getI (sub ts xs)) b.toNat : Nat) else 0
def childOK (ts : List Blk) (xs : List Int) (b : Int) : Bool := ownB ts xs && inB b 1 (ts.length - 1)
def heavR (ts : List Blk) (xs : List Int) (b : Int) : Bool := childOK ts xs b && chos ts (getI (sub ts xs)) b.toNat
/-- The greatest weight of another child, over the blocks below k. -/
def most (ts : List Blk) (S : Nat → Int) (b k : Nat) : Int := mostL S b (kidsL ts (parN ts b) k)
theorem most_zero (ts : List Blk) (S : Nat → Int) (b : Nat) : most ts S b 0 = 0 := rfl
theorem most_no {ts : List Blk} {S : Nat → Int} {b k : Nat} (h : parZ ts k ≠ parN ts b) : most ts S b (k + 1) = most ts S b k := by
  unfold most; rw [kids_no h]
theorem most_yes {ts : List Blk} {S : Nat → Int} {b k : Nat} (h : parZ ts k = parN ts b) : most ts S b (k + 1) = if k ≠ b ∧ most ts S b k < S k then S k else most ts S b k := by
  unfold most; rw [kids_yes h, mostL_snoc]
theorem most_bd {ts : List Blk} {S : Nat → Int} {b : Nat} {M : Int} (hM : 0 ≤ M) (h : ∀ i, S i ≤ M) : ∀ k, 0 ≤ most ts S b k ∧ most ts S b k ≤ M := by
  intro k
  induction k with
  | zero => rw [most_zero]; exact ⟨Int.le_refl _, hM⟩
  | succ k ih =>
    by_cases hp : parZ ts k = parN ts b
    · rw [most_yes hp]
      have := h k
      split <;> omega
    · rw [most_no hp]; exact ih
def margR (ts : List Blk) (xs : List Int) (b : Int) : Int := if childOK ts xs b = true then getI (sub ts xs) b.toNat - most ts (getI (sub ts xs)) b.toNat ts.length else 0
theorem headOK_iff {ts : List Blk} {xs : List Int} {b : Int} : headOK ts xs b = true ↔ (Tree ts ∧ xs.length = ts.length ∧ allB xs 0 100000 = true) ∧ ∃ k : Nat, b = k ∧ k < ts.length := by
  unfold headOK
  rw [Bool.and_eq_true, ownB_iff, inB_iff]
  constructor
  · rintro ⟨h, h0, h1⟩
    exact ⟨h, b.toNat, by omega, by omega⟩
  · rintro ⟨h, k, rfl, hk⟩
    exact ⟨h, by omega, by omega⟩
theorem childOK_iff {ts : List Blk} {xs : List Int} {b : Int} : childOK ts xs b = true ↔ (Tree ts ∧ xs.length = ts.length ∧ allB xs 0 100000 = true) ∧ ∃ k : Nat, b = k ∧ k < ts.length ∧ k ≠ 0 := by
  unfold childOK
  rw [Bool.and_eq_true, ownB_iff, inB_iff]
  constructor
  · rintro ⟨h, h0, h1⟩
    exact ⟨h, b.toNat, by omega, by omega, by omega⟩
  · rintro ⟨h, k, rfl, hk, h0⟩
    exact ⟨h, by omega, by omega⟩
end Go.Proofs.Ythiegfbdmmpabaa
