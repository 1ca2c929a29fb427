/- What is proved here: what the program's GoodSums, ListOf, BetweenOf, SumTo and FirstAbove return, at every list of cells. No conditions but the cells' number. -/
import Derived.Test.YtbhogcecjmlomaaFenMost
namespace Go.Proofs.Ytbhogcecjmlomaa
open Go.RowKit

theorem goodW_wtsW (xs : List Int) : goodW (wtsW xs) = goodS xs := by unfold goodW goodS; rw [wtsW_len]
theorem goodS_many {xs : List Int} (h : 32 < xs.length) : goodS xs = false := by unfold goodS; rw [inB_high (by omega)]; rfl
theorem goodS_few {xs : List Int} (h : goodS xs = true) : 1 ≤ xs.length ∧ xs.length ≤ 32 := by
  unfold goodS at h
  rw [Bool.and_eq_true, inB_iff] at h
  omega
/-- A struct of one field in a block of its own. -/
theorem box_cell (w : World) (v : Value) (t : TypeId) : (w.alloc (.cells #[v] t)).cell? ⟨w.heap.size, 0, none⟩ = some v := by
  rw [World.cell?_alloc_new]; rfl
theorem box_below (w : World) (o : Obj) : Below w.heap.size w (w.alloc o) := (Below.refl _ w).alloc (Nat.le_refl _) o
theorem IntsAt.box {w : World} {A : Option Addr} {n : Nat} {xs : List Int} (h : IntsAt w w.heap.size A n xs) (o : Obj) : IntsAt (w.alloc o) (w.alloc o).heap.size A n xs := (h.below (box_below w o)).more (box_below w o).size
theorem IntsAt.up {w w' : World} {A : Option Addr} {n : Nat} {xs : List Int} (h : IntsAt w w.heap.size A n xs) (hb : Below w.heap.size w w') : IntsAt w' w'.heap.size A n xs := (h.below hb).more hb.size

set_option maxRecDepth 100000 in
theorem goodSums_any (A : Option Addr) (n c : Nat) (xs : List Int) (w : World) (h : IntsAt w w.heap.size A n xs) (hn : n ≤ 1048576) :
    Calls Try.prog 45 #[.agg #[.slice A n c]] w fun e w' => e = .returned (.bool (goodS xs)) ∧ Below w.heap.size w w' := by
  by_cases h1 : n ≤ 32
  · have hl := Lib.hid h.1
    have hr := Lib.hid h; clear h
    go_enter Try.func45, Try.ntmps45
    go_wp2_with fail
    refine (weightsIn_any A n c xs _ (hr.out.box _) h1).mono ?_
    rintro e w1 ⟨rfl, r1, b1, s1⟩
    have b1' := Lib.hid (((box_below w _).trans (b1.mono (box_below w _).size)))
    have i1 := Lib.hid (IntsAt.of_row (B := w1.heap.size) (Nat.le_refl _) s1 ((wtsW_len xs).trans hl.out) r1)
    clear r1 b1 s1
    generalize (w.alloc (.cells #[.slice A n c] 53)).heap.size = gx at i1 ⊢
    go_wp2_with fail
    refine (areWeights_any _ n n w1.heap.size (wtsW xs) _ i1.out hn).mono ?_
    rintro e w' ⟨rfl, rfl⟩
    go_wp2_with fail
    go_ret
    exact ⟨ret_bool (goodW_wtsW xs), b1'.out⟩
  · have hg := Lib.hid (goodS_many (xs := xs) (by rw [h.1]; omega))
    clear h
    go_enter Try.func45, Try.ntmps45
    go_wp2_with fail
    go_ret
    exact ⟨ret_bool hg.out.symm, box_below w _⟩

/-- What ListOf returns. -/
def listR (xs : List Int) : List Int := if goodS xs = true then wtsW xs else []
set_option maxRecDepth 100000 in
theorem listOf_any (A : Option Addr) (n c : Nat) (xs : List Int) (w : World) (h : IntsAt w w.heap.size A n xs) (hn : n ≤ 1048576) :
    Calls Try.prog 43 #[.agg #[.slice A n c]] w (RetOwn w (goodS xs) (listR xs)) := by
  have hl := Lib.hid h.1
  have hr := Lib.hid h; clear h
  cases hg : goodS xs
  · have hR := Lib.hid (show listR xs = [] by unfold listR; rw [hg]; rfl)
    have hg' := Lib.hid hg
    go_enter Try.func43, Try.ntmps43
    go_wp2_with fail
    refine (goodSums_any A n c xs _ (hr.out.box _) hn).mono ?_
    rintro e w1 ⟨rfl, b1⟩
    have b1' := Lib.hid (((box_below w _).trans (b1.mono (box_below w _).size)))
    clear b1
    go_wp2_with fail
    go_ret2
    rw [hR.out]
    exact ⟨none, 0, 0, rfl, own_nil _ _, b1'.out⟩
  · have hn32 : n ≤ 32 := by have := (goodS_few hg).2; rw [hl.out] at this; exact this
    have hR := Lib.hid (show listR xs = wtsW xs by unfold listR; rw [hg]; rfl)
    go_enter Try.func43, Try.ntmps43
    go_wp2_with fail
    refine (goodSums_any A n c xs _ (hr.out.box _) hn).mono ?_
    rintro e w1 ⟨rfl, b1⟩
    have b1' := Lib.hid (((box_below w (.cells #[.slice A n c] 53)).trans (b1.mono (box_below w _).size)))
    have hc1 : w1.cell? ⟨w.heap.size, 0, none⟩ = some (.slice A n c) := (b1.cell (p := ⟨w.heap.size, 0, none⟩) (by simp)).trans (box_cell w _ _)
    clear b1
    go_wp2_with fail
    refine (weightsIn_any A n c xs _ (hr.out.up b1'.out) hn32).mono ?_
    rintro e w2 ⟨rfl, r2, b2, s2⟩
    have b2' := Lib.hid (b1'.out.trans (b2.mono b1'.out.size))
    have o2 := Lib.hid ((OwnAt.of_row s2 ((wtsW_len xs).trans hl.out) r2).fewer b1'.out.size)
    clear r2 b2 s2
    go_wp2_with fail
    go_ret2
    exact ⟨_, n, n, rfl, by rw [hR.out]; exact o2.out, b2'.out⟩

/-- What BetweenOf returns. -/
def betOk (xs : List Int) (f t : Int) : Bool := goodS xs && inB t 0 xs.length && inB f 0 t
def betR (xs : List Int) (f t : Int) : Int := if betOk xs f t = true then wrap64 (fs xs t.toNat - fs xs f.toNat) else 0
def RetTwo (w : World) (a : Int) (b : Bool) (e : Ending) (w' : World) : Prop := e = .returned (.tuple #[.int .i64 a, .bool b]) ∧ Below w.heap.size w w'

set_option maxRecDepth 100000 in
set_option maxHeartbeats 800000 in
theorem between_any (A : Option Addr) (n c : Nat) (xs : List Int) (f t : Int) (w : World) (h : IntsAt w w.heap.size A n xs) (hn : n ≤ 1048576) :
    Calls Try.prog 55 #[.agg #[.slice A n c], .int .i64 f, .int .i64 t] w (RetTwo w (betR xs f t) (betOk xs f t)) := by
  have hl := Lib.hid h.1
  have hr := Lib.hid h; clear h
  by_cases hk : betOk xs f t = true
  · have hk0 := hk
    unfold betOk at hk0
    rw [Bool.and_eq_true, Bool.and_eq_true, inB_iff, inB_iff, hl.out] at hk0
    obtain ⟨⟨hg, q1, q2⟩, q3, q4⟩ := hk0
    have hn32 : n ≤ 32 := by have := (goodS_few hg).2; rw [hl.out] at this; exact this
    have hR := Lib.hid (show betR xs f t = wrap64 (fs xs t.toNat - fs xs f.toNat) by unfold betR; rw [hk]; rfl)
    have hk' := Lib.hid hk
    clear hk
    obtain ⟨f', rfl⟩ := Int.eq_ofNat_of_zero_le q3
    obtain ⟨t', rfl⟩ := Int.eq_ofNat_of_zero_le q1
    go_enter Try.func55, Try.ntmps55
    go_wp2_with fail
    refine (goodSums_any A n c xs _ (hr.out.box _) hn).mono ?_
    rintro e w1 ⟨rfl, b1⟩
    have b1' := Lib.hid (((box_below w (.cells #[.slice A n c] 53)).trans (b1.mono (box_below w _).size)))
    have hc1 : w1.cell? ⟨w.heap.size, 0, none⟩ = some (.slice A n c) := (b1.cell (p := ⟨w.heap.size, 0, none⟩) (by simp)).trans (box_cell w _ _)
    clear b1
    go_wp2_with fail
    refine (sumBetween_any A n c w1.heap.size xs f' t' _ (hr.out.up b1'.out) (by omega) (by omega) hn32).mono ?_
    rintro e w' ⟨rfl, rfl⟩
    go_wp2_with fail
    go_ret2
    exact ⟨ret_two hR.out.symm hk'.out.symm, b1'.out⟩
  · have hk' := Lib.hid (show betOk xs f t = false by simpa using hk)
    have hR := Lib.hid (show betR xs f t = 0 by unfold betR; rw [if_neg hk])
    have hk0 := hk'.out
    unfold betOk at hk0
    rw [hl.out] at hk0
    cases hg : goodS xs
    · clear hk0
      go_enter Try.func55, Try.ntmps55
      go_wp2_with fail
      refine (goodSums_any A n c xs _ (hr.out.box _) hn).mono ?_
      rintro e w1 ⟨rfl, b1⟩
      have b1' := Lib.hid (((box_below w (.cells #[.slice A n c] 53)).trans (b1.mono (box_below w _).size)))
      clear b1
      go_wp2_with fail
      go_ret2
      exact ⟨ret_two hR.out.symm hk'.out.symm, b1'.out⟩
    · rw [hg, Bool.true_and] at hk0
      have hbad : f < 0 ∨ (0 ≤ f ∧ t < f) ∨ (0 ≤ f ∧ f ≤ t ∧ (n : Int) < t) := by
        by_cases q1 : f < 0
        · exact .inl q1
        · by_cases q2 : t < f
          · exact .inr (.inl ⟨by omega, q2⟩)
          · right; right
            refine ⟨by omega, by omega, ?_⟩
            by_cases q3 : (n : Int) < t
            · exact q3
            · rw [inB_true (by omega) (by omega), inB_true (by omega) (by omega)] at hk0; cases hk0
      clear hk0 hk
      rcases hbad with q1 | ⟨q1, q2⟩ | ⟨q1, q2, q3⟩
      all_goals
        go_enter Try.func55, Try.ntmps55
        go_wp2_with fail
        refine (goodSums_any A n c xs _ (hr.out.box _) hn).mono ?_
        rintro e w1 ⟨rfl, b1⟩
        have b1' := Lib.hid (((box_below w (.cells #[.slice A n c] 53)).trans (b1.mono (box_below w _).size)))
        have hc1 : w1.cell? ⟨w.heap.size, 0, none⟩ = some (.slice A n c) := (b1.cell (p := ⟨w.heap.size, 0, none⟩) (by simp)).trans (box_cell w _ _)
        clear b1
        go_wp2_with fail
        go_ret2
        exact ⟨ret_two hR.out.symm hk'.out.symm, b1'.out⟩

set_option maxRecDepth 100000 in
theorem sumTo_any (A : Option Addr) (n c : Nat) (xs : List Int) (t : Int) (w : World) (h : IntsAt w w.heap.size A n xs) (hn : n ≤ 1048576) :
    Calls Try.prog 44 #[.agg #[.slice A n c], .int .i64 t] w (RetTwo w (betR xs 0 t) (betOk xs 0 t)) := by
  have hr := Lib.hid h; clear h
  go_enter Try.func44, Try.ntmps44
  go_wp2_with fail
  refine (between_any A n c xs 0 t _ (hr.out.box _) hn).mono ?_
  rintro e w1 ⟨rfl, b1⟩
  have b1' := Lib.hid (((box_below w _).trans (b1.mono (box_below w _).size)))
  clear b1
  go_wp2_with fail
  go_ret2
  exact ⟨rfl, b1'.out⟩

/-- The greatest count of weights from the front whose sum is at most N. -/
def ctOf (xs : List Int) (N : Int) : Nat → Nat
  | 0 => 0
  | j + 1 => if ctOf xs N j = j ∧ fs xs (j + 1) ≤ N then j + 1 else ctOf xs N j
theorem ctOf_is (xs : List Int) {N : Int} (hN : 0 ≤ N) : ∀ j, IsMost xs j N (ctOf xs N j)
  | 0 => ⟨Nat.le_refl _, by show fs xs 0 ≤ N; rw [fs_zero]; exact hN, fun h => absurd h (Nat.not_lt_zero _)⟩
  | j + 1 => by
    obtain ⟨h1, h2, h3⟩ := ctOf_is xs hN j
    unfold ctOf
    split
    · rename_i h
      exact ⟨Nat.le_refl _, h.2, fun h => absurd h (Nat.lt_irrefl _)⟩
    · rename_i h
      refine ⟨by omega, h2, fun h4 => ?_⟩
      by_cases h5 : ctOf xs N j = j
      · rw [h5]
        by_cases h6 : fs xs (j + 1) ≤ N
        · exact absurd ⟨h5, h6⟩ h
        · omega
      · exact h3 (by omega)
theorem most_uniq {xs : List Int} {len : Nat} {N : Int} (hw : ∀ k, k < len → 0 ≤ wt xs k) {a b : Nat} (ha : IsMost xs len N a) (hb : IsMost xs len N b) : a = b := by
  have mono : ∀ d k, k + d ≤ len → fs xs k ≤ fs xs (k + d) := fun d => by
    induction d with
    | zero => intro k _; exact Int.le_refl _
    | succ d ih =>
      intro k hk
      have h1 := ih k (by omega)
      have h2 := hw (k + d) (by omega)
      unfold wt at h2
      rw [show k + (d + 1) = k + d + 1 by omega]
      omega
  obtain ⟨a1, a2, a3⟩ := ha
  obtain ⟨b1, b2, b3⟩ := hb
  rcases Nat.lt_trichotomy a b with h | h | h
  · have h1 := a3 (by omega)
    have h2 := mono (b - (a + 1)) (a + 1) (by omega)
    rw [show a + 1 + (b - (a + 1)) = b by omega] at h2
    omega
  · exact h
  · have h1 := b3 (by omega)
    have h2 := mono (a - (b + 1)) (b + 1) (by omega)
    rw [show b + 1 + (a - (b + 1)) = a by omega] at h2
    omega
/-- What FirstAbove returns. -/
def fabOk (xs : List Int) (N : Int) : Bool := goodS xs && decide (0 ≤ N) && decide (ctOf xs N xs.length < xs.length)
def fabR (xs : List Int) (N : Int) : Int := if fabOk xs N = true then ctOf xs N xs.length else 0

set_option maxRecDepth 100000 in
set_option maxHeartbeats 800000 in
theorem firstAbove_any (A : Option Addr) (n c : Nat) (xs : List Int) (N : Int) (w : World) (h : IntsAt w w.heap.size A n xs) (hn : n ≤ 1048576) (hi : I64s xs) (hN1 : N ≤ 9223372036854775807) :
    Calls Try.prog 52 #[.agg #[.slice A n c], .int .i64 N] w (RetTwo w (fabR xs N) (fabOk xs N)) := by
  have hl := Lib.hid h.1
  have hr := Lib.hid h; clear h
  have hi' := Lib.hid hi; clear hi
  cases hg : goodS xs
  · have hk' := Lib.hid (show fabOk xs N = false by unfold fabOk; rw [hg]; rfl)
    have hR := Lib.hid (show fabR xs N = 0 by unfold fabR; rw [hk'.out]; rfl)
    go_enter Try.func52, Try.ntmps52
    go_wp2_with fail
    refine (goodSums_any A n c xs _ (hr.out.box _) hn).mono ?_
    rintro e w1 ⟨rfl, b1⟩
    have b1' := Lib.hid (((box_below w (.cells #[.slice A n c] 53)).trans (b1.mono (box_below w _).size)))
    clear b1
    go_wp2_with fail
    go_ret2
    exact ⟨ret_two hR.out.symm hk'.out.symm, b1'.out⟩
  · by_cases hN : 0 ≤ N
    · obtain ⟨q1, q2, q3, q4⟩ := goodS_ok hi'.out hg
      rw [hl.out] at q1 q3 q4
      have hx := Lib.hid q4
      have hw := Lib.hid (fun k (hk : k < n) => (q3 k hk).1)
      have hct := Lib.hid (ctOf_is xs hN n)
      have hok := Lib.hid (show fabOk xs N = decide (ctOf xs N n < n) by unfold fabOk; rw [hg, hl.out, decide_eq_true hN]; rfl)
      have hn32 : n ≤ 32 := q1.2
      clear q1 q2 q3 q4
      go_enter Try.func52, Try.ntmps52
      go_wp2_with fail
      refine (goodSums_any A n c xs _ (hr.out.box _) hn).mono ?_
      rintro e w1 ⟨rfl, b1⟩
      have b1' := Lib.hid (((box_below w (.cells #[.slice A n c] 53)).trans (b1.mono (box_below w _).size)))
      have hc1 : w1.cell? ⟨w.heap.size, 0, none⟩ = some (.slice A n c) := (b1.cell (p := ⟨w.heap.size, 0, none⟩) (by simp)).trans (box_cell w _ _)
      clear b1
      go_wp2_with fail
      refine (mostWithin_any A n c w1.heap.size xs N _ (hr.out.up b1'.out) hn32 hx.out hN hN1).mono ?_
      rintro e w' ⟨⟨ct, rfl, hm⟩, rfl⟩
      have he := Lib.hid (most_uniq hw.out hm hct.out)
      have hle := hm.1
      clear hm
      by_cases hlt : ct < n
      · have hne : ((ct : Int) == (n : Int)) = false := by simp; omega
        go_wp2_with fail
        go_ret2
        have hk' : fabOk xs N = true := by rw [hok.out, ← he.out]; simpa using hlt
        exact ⟨ret_two (by unfold fabR; rw [hk', hl.out, ← he.out]; rfl) hk'.symm, b1'.out⟩
      · have hne : ((ct : Int) == (n : Int)) = true := by simp; omega
        go_wp2_with fail
        go_ret2
        have hk' : fabOk xs N = false := by rw [hok.out, ← he.out]; simpa using hlt
        exact ⟨ret_two (by unfold fabR; rw [hk']; rfl) hk'.symm, b1'.out⟩
    · have hk' := Lib.hid (show fabOk xs N = false by unfold fabOk; rw [decide_eq_false hN]; simp)
      have hR := Lib.hid (show fabR xs N = 0 by unfold fabR; rw [hk'.out]; rfl)
      go_enter Try.func52, Try.ntmps52
      go_wp2_with fail
      refine (goodSums_any A n c xs _ (hr.out.box _) hn).mono ?_
      rintro e w1 ⟨rfl, b1⟩
      have b1' := Lib.hid (((box_below w (.cells #[.slice A n c] 53)).trans (b1.mono (box_below w _).size)))
      clear b1
      go_wp2_with fail
      go_ret2
      exact ⟨ret_two hR.out.symm hk'.out.symm, b1'.out⟩
end Go.Proofs.Ytbhogcecjmlomaa
