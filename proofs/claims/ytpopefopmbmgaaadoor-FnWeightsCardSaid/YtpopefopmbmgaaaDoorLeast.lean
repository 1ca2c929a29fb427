/- What is proved here: plain facts on the least weight that two quorums share. No conditions. -/
import Derived.Test.YtpopefopmbmgaaaDoorSmall
namespace Go.Proofs.YtpopefopmbmgaaaDoor
open Go.RowKit

theorem land_bit (x y : Nat) : x &&& y = 2 * (x / 2 &&& y / 2) + (x % 2) * (y % 2) := by
  have h1 : (x &&& y) / 2 = x / 2 &&& y / 2 := Nat.and_div_two
  have h2 : (x &&& y) % 2 = (x % 2) * (y % 2) := by
    have := Nat.and_mod_two_pow (a := x) (b := y) (n := 1)
    simp only [Nat.pow_one] at this
    rw [this]
    rcases Nat.mod_two_eq_zero_or_one x with hx | hx <;> rcases Nat.mod_two_eq_zero_or_one y with hy | hy <;> rw [hx, hy] <;> rfl
  omega

/-- Of the sub-masks of a that are less than its sub-mask b, (b - 1) AND a is the greatest. -/
theorem sub_next : ∀ a b d : Nat, d &&& a = d → b &&& a = b → d < b → d ≤ (b - 1) &&& a := by
  intro a
  induction a using Nat.strongRecOn with
  | _ a ih =>
    intro b d hd hb hlt
    rcases Nat.eq_zero_or_pos a with rfl | ha
    · simp at hd hb; omega
    · have ld := land_bit d a
      have lb := land_bit b a
      have lc := land_bit (b - 1) a
      have md := Nat.mod_two_eq_zero_or_one d
      have mb := Nat.mod_two_eq_zero_or_one b
      have ma := Nat.mod_two_eq_zero_or_one a
      rw [hd] at ld
      rw [hb] at lb
      have pd : (d % 2) * (a % 2) ≤ 1 := by rcases md with h | h <;> rcases ma with h' | h' <;> simp [h, h']
      have pb : (b % 2) * (a % 2) ≤ 1 := by rcases mb with h | h <;> rcases ma with h' | h' <;> simp [h, h']
      have hd2 : d / 2 &&& a / 2 = d / 2 := by omega
      have hb2 : b / 2 &&& a / 2 = b / 2 := by omega
      have ed : (d % 2) * (a % 2) = d % 2 := by omega
      have eb : (b % 2) * (a % 2) = b % 2 := by omega
      rcases mb with hb0 | hb1
      · -- b is even
        have e1 : (b - 1) / 2 = b / 2 - 1 := by omega
        have e2 : (b - 1) % 2 = 1 := by omega
        rw [e1, e2, Nat.one_mul] at lc
        have hrec := ih (a / 2) (by omega) (b / 2) (d / 2) hd2 hb2 (by omega)
        have hle : d % 2 ≤ a % 2 := by rcases ma with h' | h' <;> rw [h'] at ed <;> omega
        omega
      · have e1 : (b - 1) / 2 = b / 2 := by omega
        have e2 : (b - 1) % 2 = 0 := by omega
        rw [e1, e2, Nat.zero_mul, hb2] at lc
        omega

def Sub (x y : Nat) : Prop := x &&& y = x
theorem sub_bits {x y : Nat} (h : Sub x y) (i : Nat) (hi : x.testBit i = true) : y.testBit i = true := by
  rw [← h, Nat.testBit_and, Bool.and_eq_true] at hi
  exact hi.2
theorem sub_of_bits {x y : Nat} (h : ∀ i, x.testBit i = true → y.testBit i = true) : Sub x y := by
  refine Nat.eq_of_testBit_eq fun i => ?_
  rw [Nat.testBit_and]
  cases hx : x.testBit i
  · rfl
  · rw [h i hx]; rfl
theorem wt_mono {s : List Int} (hb : Bds s) {x y : Nat} (h : Sub x y) : ∀ j, j ≤ s.length → wtL s (ofL x j) ≤ wtL s (ofL y j) := by
  intro j
  induction j with
  | zero => intro _; exact Int.le_refl _
  | succ j ih =>
    intro hj
    have h1 := ih (by omega)
    have h2 := hb j (by omega)
    cases hx : x.testBit j
    · rw [wt_no hx]
      cases hy : y.testBit j
      · rw [wt_no hy]; exact h1
      · rw [wt_yes hy]; omega
    · rw [wt_yes hx, wt_yes (sub_bits h j hx)]; omega
theorem gw_mono {s : List Int} (hb : Bds s) {x y : Nat} (h : Sub x y) : gw s x ≤ gw s y := wt_mono hb h _ (Nat.le_refl _)
theorem gq_mono {s : List Int} (hb : Bds s) {x y : Nat} (h : Sub x y) (hx : gq s x = true) : gq s y = true := by
  unfold gq at *
  have := gw_mono hb h
  simp at hx ⊢; omega

/-- v is the weight that some two quorums share. -/
def InP (s : List Int) (v : Int) : Prop := ∃ a b, a < bitN s.length ∧ b < bitN s.length ∧ gq s a = true ∧ gq s b = true ∧ v = gw s (a &&& b)
/-- v is the least weight that two quorums share. -/
def IsLeast (s : List Int) (v : Int) : Prop := InP s v ∧ ∀ a b, a < bitN s.length → b < bitN s.length → gq s a = true → gq s b = true → v ≤ gw s (a &&& b)
theorem least_unique {s : List Int} {v v' : Int} (h : IsLeast s v) (h' : IsLeast s v') : v = v' := by
  obtain ⟨a, b, ha, hb, qa, qb, rfl⟩ := h.1
  obtain ⟨a', b', ha', hb', qa', qb', rfl⟩ := h'.1
  have h1 := h.2 a' b' ha' hb' qa' qb'
  have h2 := h'.2 a b ha hb qa qb
  omega
theorem inP_total {s : List Int} (hb : Bds s) : InP s (sumL s) := by
  have hp := bitN_pos s.length
  exact ⟨bitN s.length - 1, bitN s.length - 1, by omega, by omega, gq_full hb, gq_full hb, by rw [Nat.and_self, gw_full]⟩
theorem inP_min {s : List Int} {v u : Int} (h : InP s v) (h' : InP s u) : InP s (min v u) := by
  rcases Int.le_total v u with e | e
  · rw [Int.min_eq_left e]; exact h
  · rw [Int.min_eq_right e]; exact h'
theorem inP_bd {s : List Int} (hb : Bds s) (hn : s.length ≤ 10) {v : Int} (h : InP s v) : 0 ≤ v ∧ v ≤ 10000 := by
  obtain ⟨a, b, _, _, _, _, rfl⟩ := h
  have := wt_bd (m := a &&& b) hb (Nat.le_refl s.length)
  unfold gw
  omega

/-- The complement of a mask among n bits. -/
def restN (n a : Nat) : Nat := bitN n - 1 - a
theorem rest_bit {n a : Nat} (h : a < bitN n) (i : Nat) : (restN n a).testBit i = (decide (i < n) && !a.testBit i) := by
  unfold restN bitN at *
  rw [show 2 ^ n - 1 - a = 2 ^ n - (a + 1) by omega]
  exact Nat.testBit_two_pow_sub_succ h i
theorem lt_bitN {n x : Nat} (h : ∀ i, n ≤ i → x.testBit i = false) : x < bitN n := Nat.lt_pow_two_of_testBit _ h
theorem bit_lt {n x : Nat} (h : x < bitN n) {i : Nat} (hi : x.testBit i = true) : i < n := by
  apply Classical.byContradiction
  intro hge
  rw [Nat.testBit_lt_two_pow (Nat.lt_of_lt_of_le h (Nat.pow_le_pow_right (by omega) (by omega)))] at hi
  cases hi
theorem join_lt {n a b : Nat} (ha : a < bitN n) (hb : Sub b a) : (b ||| restN n a) < bitN n := by
  refine lt_bitN fun i hi => ?_
  rw [Nat.testBit_or, rest_bit ha]
  cases hx : b.testBit i
  · simp; omega
  · have := bit_lt ha (sub_bits hb i hx); omega
theorem join_and {n a b : Nat} (ha : a < bitN n) (hb : Sub b a) : a &&& (b ||| restN n a) = b := by
  refine Nat.eq_of_testBit_eq fun i => ?_
  rw [Nat.testBit_and, Nat.testBit_or, rest_bit ha]
  cases hx : b.testBit i
  · cases a.testBit i <;> simp
  · rw [sub_bits hb i hx]; rfl
theorem join_sup {n a x : Nat} (ha : a < bitN n) (hx : x < bitN n) : Sub x ((a &&& x) ||| restN n a) := by
  refine sub_of_bits fun i hi => ?_
  rw [Nat.testBit_or, Nat.testBit_and, rest_bit ha, hi]
  have := bit_lt hx hi
  cases a.testBit i <;> simp [this]
theorem sub_and (a x : Nat) : Sub (a &&& x) a := by
  refine sub_of_bits fun i hi => ?_
  rw [Nat.testBit_and, Bool.and_eq_true] at hi
  exact hi.1
theorem sub_le {x y : Nat} (h : Sub x y) : x ≤ y := by
  have : x &&& y ≤ y := Nat.and_le_right
  rw [h] at this
  exact this
end Go.Proofs.YtpopefopmbmgaaaDoor
