/- What is proved here: plain facts on minima of ranges: two rows of the sparse table give the minimum of a range. No conditions. -/
import Derived.Test.YthiegfbdmmpababSparseFns
import Derived.Lib.ItoaNum
namespace Go.Proofs.Ythiegfbdmmpabab
open Go.RowKit

/-- m is the least of the numbers of l from index i to index j, j not among them. -/
def IsMin (l : List Int) (i j : Nat) (m : Int) : Prop := (∃ t, i ≤ t ∧ t < j ∧ l[t]?.getD 0 = m) ∧ ∀ t, i ≤ t → t < j → m ≤ l[t]?.getD 0
theorem IsMin.uniq {l : List Int} {i j : Nat} {m m' : Int} (h : IsMin l i j m) (h' : IsMin l i j m') : m = m' := by
  obtain ⟨⟨t, a, b, e⟩, h1⟩ := h
  obtain ⟨⟨t', a', b', e'⟩, h1'⟩ := h'
  have := h1 t' a' b'
  have := h1' t a b
  omega
theorem IsMin.one (l : List Int) (i : Nat) : IsMin l i (i + 1) (l[i]?.getD 0) :=
  ⟨⟨i, Nat.le_refl _, by omega, rfl⟩, fun t a b => by have : t = i := by omega
                                                      subst this; exact Int.le_refl _⟩
theorem IsMin.join {l : List Int} {a b c d : Nat} {x y : Int} (h : IsMin l a b x) (k : IsMin l c d y) (h1 : a ≤ c) (h2 : c ≤ b) (h3 : b ≤ d) : IsMin l a d (minI x y) := by
  obtain ⟨⟨t, p, q, e⟩, hx⟩ := h
  obtain ⟨⟨t', p', q', e'⟩, hy⟩ := k
  unfold minI
  split
  · refine ⟨⟨t, p, by omega, e⟩, fun s hs1 hs2 => ?_⟩
    by_cases hb : s < b
    · exact hx s hs1 hb
    · have := hy s (by omega) hs2; omega
  · refine ⟨⟨t', by omega, q', e'⟩, fun s hs1 hs2 => ?_⟩
    by_cases hb : s < c
    · have := hx s hs1 (by omega); omega
    · exact hy s (by omega) hs2
theorem spRow_min (l : List Int) : ∀ k i, i + 2 ^ k ≤ l.length → IsMin l i (i + 2 ^ k) ((spRow l k)[i]?.getD 0)
  | 0, i, _ => IsMin.one l i
  | k + 1, i, h => by
    have hp : 2 ^ (k + 1) = 2 ^ k + 2 ^ k := by rw [Nat.pow_succ]; omega
    have hpos := Nat.two_pow_pos k
    have e : (spRow l (k + 1))[i]?.getD 0 = minI ((spRow l k)[i]?.getD 0) ((spRow l k)[i + 2 ^ k]?.getD 0) := by
      show (((List.range (l.length + 1 - 2 ^ (k + 1))).map fun i => minI ((spRow l k)[i]?.getD 0) ((spRow l k)[i + 2 ^ k]?.getD 0))[i]?).getD 0 = _
      rw [List.getElem?_map, List.getElem?_range (by omega)]; rfl
    rw [e]
    have h1 := spRow_min l k i (by omega)
    have h2 := spRow_min l k (i + 2 ^ k) (by omega)
    have := h1.join h2 (by omega) (by omega) (by omega)
    rwa [show i + 2 ^ k + 2 ^ k = i + 2 ^ (k + 1) by omega] at this
/-- The minimum as the model looks for it: of the first j numbers from index a on. -/
def minTo (l : List Int) (a : Nat) : Nat → Int
  | 0 => l[a]?.getD 0
  | j + 1 => minI (minTo l a j) (l[a + j]?.getD 0)
theorem minTo_min (l : List Int) (a : Nat) : ∀ j, IsMin l a (a + (j + 1)) (minTo l a (j + 1))
  | 0 => by
    show IsMin l a (a + 1) (minI (l[a]?.getD 0) (l[a + 0]?.getD 0))
    have := (IsMin.one l a).join (IsMin.one l a) (Nat.le_refl _) (by omega) (Nat.le_refl _)
    exact this
  | j + 1 => by
    have h1 := minTo_min l a j
    have h2 := IsMin.one l (a + (j + 1))
    exact h1.join h2 (by omega) (by omega) (by omega)
/-- The greatest k with 2^k numbers in a range of m. -/
def logN (m : Nat) : Nat := Lib.bitLen m - 1
theorem logN_ok {m : Nat} (h : 0 < m) (hm : m ≤ 60) : Lib.bitLen m = logN m + 1 ∧ 2 ^ logN m ≤ m ∧ m < 2 * 2 ^ logN m := by
  have hb := Lib.bitLenAux_bounds 64 m (Nat.lt_of_le_of_lt hm (by decide)) (by omega)
  have e : Lib.bitLen m = logN m + 1 := by unfold logN; unfold Lib.bitLen; omega
  have h2 : 2 ^ Lib.bitLenAux 64 m = 2 * 2 ^ (Lib.bitLenAux 64 m - 1) := by
    obtain ⟨q, hq⟩ : ∃ q, Lib.bitLenAux 64 m = q + 1 := ⟨_, (Nat.sub_add_cancel hb.1).symm⟩
    rw [hq, Nat.pow_succ]; simp; omega
  refine ⟨e, hb.2.1, ?_⟩
  show m < 2 * 2 ^ (Lib.bitLenAux 64 m - 1)
  rw [← h2]; exact hb.2.2
theorem two_rows {l : List Int} {f t : Nat} (h : f < t) (ht : t ≤ l.length) (hl : l.length ≤ 60) :
    minI ((spRow l (logN (t - f)))[f]?.getD 0) ((spRow l (logN (t - f)))[t - 2 ^ logN (t - f)]?.getD 0) = minTo l f (t - f) := by
  obtain ⟨_, h1, h2⟩ := logN_ok (m := t - f) (by omega) (by omega)
  have a := spRow_min l (logN (t - f)) f (by omega)
  have b := spRow_min l (logN (t - f)) (t - 2 ^ logN (t - f)) (by omega)
  have c := a.join b (by omega) (by omega) (by omega)
  rw [show t - 2 ^ logN (t - f) + 2 ^ logN (t - f) = t by omega] at c
  obtain ⟨j, hj⟩ : ∃ j, t - f = j + 1 := ⟨t - f - 1, by omega⟩
  have d := minTo_min l f j
  rw [← hj, show f + (t - f) = t by omega] at d
  exact c.uniq d

set_option maxHeartbeats 400000 in
theorem l1Same_any (A A' : Option Addr) (n n' c c' B : Nat) (xs ys : List Int) (w : World) (h : IntsAt w B A n xs) (h' : IntsAt w B A' n' ys) (hn : n ≤ 1048576) (hn' : n' ≤ 1048576) :
    Calls Try.prog 109 #[.slice A n c, .slice A' n' c'] w fun e w' => e = .returned (.bool (eqB xs ys)) ∧ ∃ m, w' = w.drewN m := by
  have hl' := Lib.hid h.1
  have hr := Lib.hid h; clear h
  have hl2' := Lib.hid h'.1
  have hr2 := Lib.hid h'; clear h'
  by_cases he : n = n'
  · subst he
    have hne : ((n : Int) != (n : Int)) = false := by simp
    go_enter Try.func109, Try.ntmps109
    go_wp2
    go_loopw [13] (fun i wr => ∃ k : Nat, k ≤ n ∧ i = .int .i64 k ∧ Hid (∀ j, j < k → xs[j]?.getD 0 = ys[j]?.getD 0) ∧ ∃ m, wr = w.drewN m) (fun i _ => n - (intOf i).toNat)
    case atStart => exact ⟨0, Nat.zero_le _, rfl, Lib.hid (fun j hj => absurd hj (Nat.not_lt_zero _)), 0, rfl⟩
    case round =>
      obtain ⟨k, hk, rfl, hall, m, rfl⟩ := hrel
      by_cases hlt : k < n
      · obtain ⟨b, off, rfl, _, hc⟩ := hr.out.2 k hlt
        obtain ⟨b', off', rfl, _, hc'⟩ := hr2.out.2 k hlt
        cases hx : (xs[k]?.getD 0 != ys[k]?.getD 0)
        · go_wp2
          go_quiet (fail)
          go_wp2
          go_roundw
          case rel =>
            refine ⟨k + 1, by omega, by go_num, Lib.hid (fun j hj => ?_), _, rfl⟩
            by_cases e : j = k
            · subst e; simpa using hx
            · exact hall.out j (by omega)
          case measure => simp [intOf]; omega
        · go_wp2
          go_quiet (fail)
          go_wp2
          go_ret
          exact ⟨ret_bool (eqB_no (k := k) (by simpa using hx)).symm, _, World.drewN_drewN _ _ _⟩
      · go_wp2
        go_ret
        exact ⟨ret_bool (eqB_yes (by rw [hl'.out, hl2'.out]) (fun j hj => hall.out j (by rw [hl'.out] at hj; omega))).symm, _, rfl⟩
  · have hne : ((n : Int) != (n' : Int)) = true := by simp; omega
    have hq := Lib.hid (eqB_len (xs := xs) (ys := ys) (by rw [hl'.out, hl2'.out]; exact he))
    go_enter Try.func109, Try.ntmps109
    go_wp2
    go_ret
    exact ⟨ret_bool hq.out.symm, 0, rfl⟩

set_option maxHeartbeats 400000 in
theorem slEqual_any (A A' : Option Addr) (n n' c c' B : Nat) (xs ys : List Int) (w : World) (h : IntsAt w B A n xs) (h' : IntsAt w B A' n' ys) (hn : n ≤ 1048576) (hn' : n' ≤ 1048576) :
    Calls Try.prog 132 #[.slice A n c, .slice A' n' c'] w fun e w' => e = .returned (.bool (eqB xs ys)) ∧ ∃ m, w' = w.drewN m := by
  have hl' := Lib.hid h.1
  have hr := Lib.hid h; clear h
  have hl2' := Lib.hid h'.1
  have hr2 := Lib.hid h'; clear h'
  by_cases he : n = n'
  · subst he
    have hne : ((n : Int) != (n : Int)) = false := by simp
    go_enter Try.func132, Try.ntmps132
    go_wp2
    go_loopw [13] (fun i wr => ∃ k : Nat, k ≤ n ∧ i = .int .i64 k ∧ Hid (∀ j, j < k → xs[j]?.getD 0 = ys[j]?.getD 0) ∧ ∃ m, wr = w.drewN m) (fun i _ => n - (intOf i).toNat)
    case atStart => exact ⟨0, Nat.zero_le _, rfl, Lib.hid (fun j hj => absurd hj (Nat.not_lt_zero _)), 0, rfl⟩
    case round =>
      obtain ⟨k, hk, rfl, hall, m, rfl⟩ := hrel
      by_cases hlt : k < n
      · obtain ⟨b, off, rfl, _, hc⟩ := hr.out.2 k hlt
        obtain ⟨b', off', rfl, _, hc'⟩ := hr2.out.2 k hlt
        cases hx : (xs[k]?.getD 0 != ys[k]?.getD 0)
        · go_wp2
          go_quiet (fail)
          go_wp2
          go_roundw
          case rel =>
            refine ⟨k + 1, by omega, by go_num, Lib.hid (fun j hj => ?_), _, rfl⟩
            by_cases e : j = k
            · subst e; simpa using hx
            · exact hall.out j (by omega)
          case measure => simp [intOf]; omega
        · go_wp2
          go_quiet (fail)
          go_wp2
          go_ret
          exact ⟨ret_bool (eqB_no (k := k) (by simpa using hx)).symm, _, World.drewN_drewN _ _ _⟩
      · go_wp2
        go_ret
        exact ⟨ret_bool (eqB_yes (by rw [hl'.out, hl2'.out]) (fun j hj => hall.out j (by rw [hl'.out] at hj; omega))).symm, _, rfl⟩
  · have hne : ((n : Int) != (n' : Int)) = true := by simp; omega
    have hq := Lib.hid (eqB_len (xs := xs) (ys := ys) (by rw [hl'.out, hl2'.out]; exact he))
    go_enter Try.func132, Try.ntmps132
    go_wp2
    go_ret
    exact ⟨ret_bool hq.out.symm, 0, rfl⟩
end Go.Proofs.Ythiegfbdmmpabab
