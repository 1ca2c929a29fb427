/- What is proved here: plain facts on Fenwick trees of at most 32 cells: their prefix sums, the list that they are made of, and which lists of cells are good. No conditions. -/
import Derived.Test.YthiegfbdmmpabaaOwn
namespace Go.Proofs.Ythiegfbdmmpabaa
open Go.RowKit

/-- The lowest 1 bit of n, as a number (n from 1 to 64). -/
def low (n : Nat) : Nat := n &&& (128 - n)
theorem low_all : ∀ n, n < 65 → 0 < n → 0 < low n ∧ low n ≤ n := by decide +kernel
theorem low_pos {n : Nat} (h : 0 < n) (h' : n ≤ 64) : 0 < low n := (low_all n (by omega) h).1
theorem low_le {n : Nat} (h : 0 < n) (h' : n ≤ 64) : low n ≤ n := (low_all n (by omega) h).2
/-- Cell m covers the number at k. -/
def cov (m k : Nat) : Bool := decide (m - low m ≤ k) && decide (k < m)
theorem cov_iff {m k : Nat} : cov m k = true ↔ m - low m ≤ k ∧ k < m := by simp [cov]
theorem cov_first : ∀ k, k < 32 → cov (k + 1) k = true := by decide +kernel
theorem cov_next_all : ∀ n, n < 33 → ∀ k, k < 32 → 0 < n → cov n k = true → cov (n + low n) k = true := by decide +kernel
theorem cov_gap_b : ∀ n, n < 33 → ∀ k, k < 32 → ∀ m, m < 33 → (decide (0 < n) && cov n k && decide (n < m) && decide (m < n + low n)) = true → cov m k = false := by decide +kernel
theorem cov_gap_all {n k m : Nat} (h1 : n < 33) (h2 : k < 32) (h3 : m < 33) (h4 : 0 < n) (h5 : cov n k = true) (h6 : n < m) (h7 : m < n + low n) : cov m k = false :=
  cov_gap_b n h1 k h2 m h3 (by simp [h4, h5, h6, h7])
theorem cov_low : ∀ k, k < 32 → ∀ m, m < k + 1 → cov m k = false := by decide +kernel

/-- The sum of the cells on the way down from n. -/
def fs (c : List Int) : Nat → Int
  | 0 => 0
  | n + 1 => c[n]?.getD 0 + fs c (n - (low (n + 1) - 1))
termination_by n => n
decreasing_by omega
theorem fs_zero (c : List Int) : fs c 0 = 0 := by rw [fs]
theorem fs_step (c : List Int) {n : Nat} (h : 0 < n) (h' : n ≤ 64) : fs c n = c[n - 1]?.getD 0 + fs c (n - low n) := by
  obtain ⟨m, rfl⟩ : ∃ m, n = m + 1 := ⟨n - 1, by omega⟩
  have h1 := low_pos h h'
  have h2 := low_le h h'
  rw [fs, show m + 1 - 1 = m by omega, show m - (low (m + 1) - 1) = m + 1 - low (m + 1) by omega]

def wt (c : List Int) (k : Nat) : Int := fs c (k + 1) - fs c k
def wts (c : List Int) : List Int := (List.range c.length).map (wt c)
theorem wts_len (c : List Int) : (wts c).length = c.length := by simp [wts]
theorem wts_get {c : List Int} {k : Nat} (h : k < c.length) : (wts c)[k]?.getD 0 = wt c k := by simp [wts, h]
/-- The same, as the program's numbers wrap. -/
def wtsW (c : List Int) : List Int := (List.range c.length).map fun k => wrap64 (wt c k)
theorem wtsW_len (c : List Int) : (wtsW c).length = c.length := by simp [wtsW]
theorem wtsW_get {c : List Int} {k : Nat} (h : k < c.length) : (wtsW c)[k]?.getD 0 = wrap64 (wt c k) := by simp [wtsW, h]

theorem wts_sum (c : List Int) : ∀ k, k ≤ c.length → sumL ((wts c).take k) = fs c k
  | 0, _ => by rw [fs_zero]; rfl
  | k + 1, h => by
    rw [sumL_step (by rw [wts_len]; omega), wts_sum c k (by omega), wts_get (by omega)]
    unfold wt; omega
theorem sum_part (l : List Int) {a b : Nat} (h : a ≤ b) : sumL ((l.take b).drop a) = sumL (l.take b) - sumL (l.take a) := by
  have e : l.take b = l.take a ++ (l.take b).drop a := by
    have := (List.take_append_drop a (l.take b)).symm
    rwa [List.take_take, Nat.min_eq_left h] at this
  have : sumL (l.take b) = sumL (l.take a) + sumL ((l.take b).drop a) := by
    conv => lhs; rw [e]
    unfold sumL; rw [List.sum_append]
  omega

/-- Good cells, as the program asks. -/
def goodS (c : List Int) : Bool := inB c.length 1 32 && allB (wtsW c) 0 100000
/-- Good cells, as the model asks. -/
def goodM (c : List Int) : Bool := inB c.length 1 32 && allB c 0 3200000 && (inB c.length 1 32 && allB (wts c) 0 100000)
/-- All are 64-bit integers. -/
def I64s (c : List Int) : Prop := ∀ k, k < c.length → -9223372036854775808 ≤ c[k]?.getD 0 ∧ c[k]?.getD 0 ≤ 9223372036854775807

theorem allB_of {s : List Int} {lo hi : Int} (h : ∀ k, k < s.length → lo ≤ s[k]?.getD 0 ∧ s[k]?.getD 0 ≤ hi) : allB s lo hi = true := by
  unfold allB
  rw [List.all_eq_true]
  intro x hx
  obtain ⟨k, hk, rfl⟩ := List.getElem_of_mem hx
  have := h k hk
  rw [List.getElem?_eq_getElem hk, Option.getD_some] at this
  exact inB_true this.1 this.2

/-- Of a sum of weights up to b, all but those up to a. -/
theorem sum_bd {l : List Int} (h : ∀ k, k < l.length → 0 ≤ l[k]?.getD 0 ∧ l[k]?.getD 0 ≤ 100000) : ∀ d a, a + d ≤ l.length → 0 ≤ sumL (l.take (a + d)) - sumL (l.take a) ∧ sumL (l.take (a + d)) - sumL (l.take a) ≤ 100000 * d
  | 0, a, _ => by simp
  | d + 1, a, hd => by
    have h1 := sum_bd h d a (by omega)
    have h2 := h (a + d) (by omega)
    have h3 := sumL_step (s := l) (k := a + d) (by omega)
    rw [show a + (d + 1) = a + d + 1 by omega, h3]
    omega

theorem goodS_ok {c : List Int} (hr : I64s c) (h : goodS c = true) : (1 ≤ c.length ∧ c.length ≤ 32) ∧ (∀ k, k < c.length → wrap64 (wt c k) = wt c k) ∧ (∀ k, k < c.length → 0 ≤ wt c k ∧ wt c k ≤ 100000) ∧ (∀ k, k < c.length → 0 ≤ c[k]?.getD 0 ∧ c[k]?.getD 0 ≤ 3200000) := by
  unfold goodS at h
  rw [Bool.and_eq_true] at h
  obtain ⟨h1, h2⟩ := h
  have hl := inB_iff.1 h1
  have hv : ∀ k, k < c.length → 0 ≤ wrap64 (wt c k) ∧ wrap64 (wt c k) ≤ 100000 := fun k hk => by
    have := allB_get h2 (k := k) (by rw [wtsW_len]; exact hk)
    rwa [wtsW_get hk] at this
  have key : ∀ k, k < c.length → wt c k = wrap64 (wt c k) ∧ 0 ≤ c[k]?.getD 0 ∧ c[k]?.getD 0 ≤ 3200000 := fun k => by
    induction k using Nat.strongRecOn with
    | _ k ih =>
      intro hk
      have hlo := low_pos (n := k + 1) (by omega) (by omega)
      have hle := low_le (n := k + 1) (by omega) (by omega)
      have hstep := fs_step c (n := k + 1) (by omega) (by omega)
      rw [Nat.add_sub_cancel] at hstep
      -- the weights ahead of k are small
      have hsum : ∀ d a, a + d ≤ k → 0 ≤ fs c (a + d) - fs c a ∧ fs c (a + d) - fs c a ≤ 100000 * d := fun d => by
        induction d with
        | zero => intro a _; simp
        | succ d ihd =>
          intro a ha
          have h1 := ihd a (by omega)
          have h2 := (ih (a + d) (by omega) (by omega)).1
          have h3 := hv (a + d) (by omega)
          rw [← h2] at h3
          unfold wt at h3
          rw [show a + (d + 1) = a + d + 1 by omega]
          omega
      have hx := hsum (low (k + 1) - 1) (k + 1 - low (k + 1)) (by omega)
      rw [show k + 1 - low (k + 1) + (low (k + 1) - 1) = k by omega] at hx
      have hw := hv k hk
      have hc := hr k hk
      have he : wt c k = c[k]?.getD 0 - (fs c k - fs c (k + 1 - low (k + 1))) := by unfold wt; omega
      unfold wrap64 at hw ⊢
      generalize wt c k = z at *
      generalize fs c k - fs c (k + 1 - low (k + 1)) = y at *
      omega
  refine ⟨by omega, fun k hk => (key k hk).1.symm, fun k hk => ?_, fun k hk => (key k hk).2⟩
  have := hv k hk
  rw [← (key k hk).1] at this
  exact this

theorem fs_bd {c : List Int} (hl : c.length ≤ 32) (hc : ∀ k, k < c.length → 0 ≤ c[k]?.getD 0 ∧ c[k]?.getD 0 ≤ 3200000) : ∀ n, n ≤ c.length → 0 ≤ fs c n ∧ fs c n ≤ 3200000 * n := fun n => by
  induction n using Nat.strongRecOn with
  | _ n ih =>
    intro hn
    by_cases h0 : n = 0
    · subst h0; rw [fs_zero]; simp
    · have hlo := low_pos (n := n) (by omega) (by omega)
      have hle := low_le (n := n) (by omega) (by omega)
      have h1 := ih (n - low n) (by omega) (by omega)
      have h2 := hc (n - 1) (by omega)
      rw [fs_step c (by omega) (by omega)]
      omega

theorem goodS_of_M {c : List Int} (h : goodM c = true) : goodS c = true := by
  unfold goodM at h
  simp only [Bool.and_eq_true] at h
  obtain ⟨⟨h1, h2⟩, _, h3⟩ := h
  have hl := inB_iff.1 h1
  have hc := fun k hk => allB_get h2 (k := k) hk
  have hb := fs_bd (by omega) hc
  unfold goodS
  rw [h1, Bool.true_and]
  refine allB_of fun k hk => ?_
  rw [wtsW_len] at hk
  have h4 := allB_get h3 (k := k) (by rw [wts_len]; exact hk)
  rw [wts_get hk] at h4
  rw [wtsW_get hk]
  unfold wrap64
  omega
theorem goodM_of_S {c : List Int} (hr : I64s c) (h : goodS c = true) : goodM c = true := by
  obtain ⟨hl, _, hw, hc⟩ := goodS_ok hr h
  have h1 : inB (c.length : Int) 1 32 = true := inB_true (by omega) (by omega)
  unfold goodM
  rw [h1, allB_of hc, allB_of (s := wts c) (fun k hk => by rw [wts_len] at hk; rw [wts_get hk]; exact hw k hk)]
  rfl
theorem good_eq {c : List Int} (hr : I64s c) : goodM c = goodS c := by
  cases h : goodS c
  · cases h' : goodM c
    · rfl
    · rw [goodS_of_M h'] at h; cases h
  · exact goodM_of_S hr h

/-- The cells of a list. -/
def fenL (l : List Int) : List Int := (List.range l.length).map fun k => sumL (l.take (k + 1)) - sumL (l.take (k + 1 - low (k + 1)))
theorem fenL_len (l : List Int) : (fenL l).length = l.length := by simp [fenL]
theorem fenL_get {l : List Int} {k : Nat} (h : k < l.length) : (fenL l)[k]?.getD 0 = sumL (l.take (k + 1)) - sumL (l.take (k + 1 - low (k + 1))) := by simp [fenL, h]
theorem fs_ofL {l : List Int} (hl : l.length ≤ 64) : ∀ n, n ≤ l.length → fs (fenL l) n = sumL (l.take n) := fun n => by
  induction n using Nat.strongRecOn with
  | _ n ih =>
    intro hn
    by_cases h0 : n = 0
    · subst h0; rw [fs_zero]; rfl
    · have hlo := low_pos (n := n) (by omega) (by omega)
      have hle := low_le (n := n) (by omega) (by omega)
      rw [fs_step _ (by omega) (by omega), fenL_get (by omega), ih (n - low n) (by omega) (by omega), show n - 1 + 1 = n by omega]
      omega
theorem wt_ofL {l : List Int} (hl : l.length ≤ 64) {k : Nat} (hk : k < l.length) : wt (fenL l) k = l[k]?.getD 0 := by
  unfold wt
  rw [fs_ofL hl _ (by omega), fs_ofL hl _ (by omega), sumL_step hk]
  omega
theorem ext_get {a b : List Int} (hl : a.length = b.length) (h : ∀ k, k < a.length → a[k]?.getD 0 = b[k]?.getD 0) : a = b := by
  apply List.ext_getElem hl
  intro k h1 h2
  have := h k h1
  rwa [List.getElem?_eq_getElem h1, List.getElem?_eq_getElem h2, Option.getD_some, Option.getD_some] at this
theorem wts_ofL {l : List Int} (hl : l.length ≤ 64) : wts (fenL l) = l :=
  ext_get (by rw [wts_len, fenL_len]) (fun k hk => by
    rw [wts_len, fenL_len] at hk
    rw [wts_get (by rw [fenL_len]; exact hk), wt_ofL hl hk])
/-- A list of weights. -/
def goodW (l : List Int) : Bool := inB l.length 1 32 && allB l 0 100000
theorem goodW_iff {l : List Int} : goodW l = true ↔ (1 ≤ l.length ∧ l.length ≤ 32) ∧ ∀ k, k < l.length → 0 ≤ l[k]?.getD 0 ∧ l[k]?.getD 0 ≤ 100000 := by
  unfold goodW
  rw [Bool.and_eq_true, inB_iff]
  constructor
  · rintro ⟨h1, h2⟩
    exact ⟨by omega, fun k hk => allB_get h2 hk⟩
  · rintro ⟨h1, h2⟩
    exact ⟨by omega, allB_of h2⟩
theorem good_ofL {l : List Int} (h : goodW l = true) : goodS (fenL l) = true := by
  obtain ⟨h1, h2⟩ := goodW_iff.1 h
  unfold goodS
  rw [fenL_len, inB_true (by omega) (by omega), Bool.true_and]
  refine allB_of fun k hk => ?_
  rw [wtsW_len, fenL_len] at hk
  rw [wtsW_get (by rw [fenL_len]; exact hk), wt_ofL (by omega) hk]
  have := h2 k hk
  unfold wrap64
  omega
theorem fenL_bd {l : List Int} (h : goodW l = true) : ∀ k, k < l.length → 0 ≤ (fenL l)[k]?.getD 0 ∧ (fenL l)[k]?.getD 0 ≤ 3200000 := fun k hk => by
  obtain ⟨h1, h2⟩ := goodW_iff.1 h
  have hlo := low_pos (n := k + 1) (by omega) (by omega)
  have hle := low_le (n := k + 1) (by omega) (by omega)
  have := sum_bd h2 (low (k + 1)) (k + 1 - low (k + 1)) (by omega)
  rw [show k + 1 - low (k + 1) + low (k + 1) = k + 1 by omega] at this
  rw [fenL_get hk]
  omega

/-- Good cells are those of their weights. -/
theorem fenL_wts {c : List Int} (hl : c.length ≤ 64) : fenL (wts c) = c :=
  ext_get (by rw [fenL_len, wts_len]) (fun k hk => by
    rw [fenL_len, wts_len] at hk
    have hlo := low_pos (n := k + 1) (by omega) (by omega)
    have hle := low_le (n := k + 1) (by omega) (by omega)
    rw [fenL_get (by rw [wts_len]; exact hk), wts_sum c _ (by omega), wts_sum c _ (by omega), fs_step c (n := k + 1) (by omega) (by omega), Nat.add_sub_cancel]
    omega)

/-- The cells with the first j weights of l added. -/
def part (l : List Int) (j : Nat) : List Int := (List.range l.length).map fun k => sumL (l.take (min j (k + 1))) - sumL (l.take (min j (k + 1 - low (k + 1))))
theorem part_len (l : List Int) (j : Nat) : (part l j).length = l.length := by simp [part]
theorem part_get {l : List Int} {j k : Nat} (h : k < l.length) : (part l j)[k]?.getD 0 = sumL (l.take (min j (k + 1))) - sumL (l.take (min j (k + 1 - low (k + 1)))) := by simp [part, h]
theorem part_zero {l : List Int} {k : Nat} : (part l 0)[k]?.getD 0 = 0 := by
  by_cases h : k < l.length
  · rw [part_get h]; simp
  · rw [List.getElem?_eq_none (by rw [part_len]; omega)]; rfl
theorem part_all {l : List Int} : part l l.length = fenL l :=
  ext_get (by rw [part_len, fenL_len]) (fun k hk => by
    rw [part_len] at hk
    rw [part_get hk, fenL_get hk, Nat.min_eq_right (by omega), Nat.min_eq_right (by omega)])
theorem part_step {l : List Int} {j k : Nat} (hj : j < l.length) (hk : k < l.length) (hl : l.length ≤ 32) : (part l (j + 1))[k]?.getD 0 = (part l j)[k]?.getD 0 + (if cov (k + 1) j = true then l[j]?.getD 0 else 0) := by
  have hlo := low_pos (n := k + 1) (by omega) (by omega)
  have hle := low_le (n := k + 1) (by omega) (by omega)
  have hs := sumL_step (s := l) hj
  rw [part_get hk, part_get hk]
  by_cases h : cov (k + 1) j = true
  · rw [if_pos h]
    have := cov_iff.1 h
    rw [show min (j + 1) (k + 1) = j + 1 by omega, show min j (k + 1) = j by omega, show min (j + 1) (k + 1 - low (k + 1)) = k + 1 - low (k + 1) by omega, show min j (k + 1 - low (k + 1)) = k + 1 - low (k + 1) by omega, hs]
    omega
  · rw [if_neg h]
    have h' : ¬ (k + 1 - low (k + 1) ≤ j ∧ j < k + 1) := fun e => h (cov_iff.2 e)
    by_cases h3 : k + 1 ≤ j
    · rw [show min (j + 1) (k + 1) = k + 1 by omega, show min j (k + 1) = k + 1 by omega, show min (j + 1) (k + 1 - low (k + 1)) = k + 1 - low (k + 1) by omega, show min j (k + 1 - low (k + 1)) = k + 1 - low (k + 1) by omega]
      omega
    · rw [show min (j + 1) (k + 1) = j + 1 by omega, show min j (k + 1) = j by omega, show min (j + 1) (k + 1 - low (k + 1)) = j + 1 by omega, show min j (k + 1 - low (k + 1)) = j by omega]
      omega
theorem part_bd {l : List Int} (h : goodW l = true) {j k : Nat} (hj : j ≤ l.length) (hk : k < l.length) : 0 ≤ (part l j)[k]?.getD 0 ∧ (part l j)[k]?.getD 0 ≤ 3200000 := by
  obtain ⟨h1, h2⟩ := goodW_iff.1 h
  have hlo := low_pos (n := k + 1) (by omega) (by omega)
  have hle := low_le (n := k + 1) (by omega) (by omega)
  rw [part_get hk]
  have := sum_bd h2 (min j (k + 1) - min j (k + 1 - low (k + 1))) (min j (k + 1 - low (k + 1))) (by omega)
  rw [show min j (k + 1 - low (k + 1)) + (min j (k + 1) - min j (k + 1 - low (k + 1))) = min j (k + 1) by omega] at this
  omega

/-- One number more at k. -/
theorem sum_set {l : List Int} {k : Nat} {by_ : Int} (hk : k < l.length) : ∀ n, n ≤ l.length → sumL ((l.set k (l[k]?.getD 0 + by_)).take n) = sumL (l.take n) + (if k < n then by_ else 0)
  | 0, _ => by simp
  | n + 1, h => by
    have hs := sumL_step (s := l) (k := n) (by omega)
    have hs' := sumL_step (s := l.set k (l[k]?.getD 0 + by_)) (k := n) (by rw [List.length_set]; omega)
    have ih := sum_set (by_ := by_) hk n (by omega)
    rw [hs', hs, ih]
    by_cases e : n = k
    · subst e
      rw [List.getElem?_set_self hk, Option.getD_some, if_neg (by omega), if_pos (by omega)]
      omega
    · rw [List.getElem?_set_ne (by omega)]
      by_cases e2 : k < n
      · rw [if_pos e2, if_pos (by omega)]; omega
      · rw [if_neg e2, if_neg (by omega)]; omega
theorem fenL_set {l : List Int} {j : Nat} {by_ : Int} (hj : j < l.length) (hl : l.length ≤ 32) {k : Nat} (hk : k < l.length) : (fenL (l.set j (l[j]?.getD 0 + by_)))[k]?.getD 0 = (fenL l)[k]?.getD 0 + (if cov (k + 1) j = true then by_ else 0) := by
  have hlo := low_pos (n := k + 1) (by omega) (by omega)
  have hle := low_le (n := k + 1) (by omega) (by omega)
  rw [fenL_get (by rw [List.length_set]; exact hk), fenL_get hk, sum_set hj _ (by omega), sum_set hj _ (by omega)]
  by_cases h : cov (k + 1) j = true
  · have := cov_iff.1 h
    rw [if_pos h, if_pos (by omega), if_neg (by omega)]
    omega
  · rw [if_neg h]
    have h' : ¬ (k + 1 - low (k + 1) ≤ j ∧ j < k + 1) := fun e => h (cov_iff.2 e)
    by_cases h3 : j < k + 1 - low (k + 1)
    · rw [if_pos (by omega), if_pos (by omega)]; omega
    · rw [if_neg (by omega), if_neg (by omega)]; omega
end Go.Proofs.Ythiegfbdmmpabaa
