/- What is proved here: boxes of two and three cells; what a call that returns a view leaves; what the law's helpers on views return. No conditions but lengths. -/
import Derived.Test.YtlobjfipefibaaaPoolBox
import Derived.Test.YtlobjfipefibaaaOpenVotes
namespace Go.Proofs.Ytlobjfipefibaaa
open Go.RowKit

def fn2 (a b : Value) (i : Nat) : Value := if i = 0 then a else b
def fn3 (a b c : Value) (i : Nat) : Value := if i = 0 then a else if i = 1 then b else c
theorem bx_row2 (w : World) (a b : Value) (t : TypeId) : (w.alloc (.cells #[a, b] t)).rowIs w.heap.size t 2 (fn2 a b) :=
  ⟨_, heap_alloc_new _ _, rfl, fun i hi => by
    have : i = 0 ∨ i = 1 := by omega
    rcases this with rfl | rfl <;> rfl⟩
theorem bx_row3 (w : World) (a b c : Value) (t : TypeId) : (w.alloc (.cells #[a, b, c] t)).rowIs w.heap.size t 3 (fn3 a b c) :=
  ⟨_, heap_alloc_new _ _, rfl, fun i hi => by
    have : i = 0 ∨ i = 1 ∨ i = 2 := by omega
    rcases this with rfl | rfl | rfl <;> rfl⟩
section
variable {w : World} {g : Nat} {t : TypeId} {a b c : Value}
theorem row2_0 (h : w.rowIs g t 2 (fn2 a b)) : w.cell? ⟨g, 0, none⟩ = some a := h.cell (i := 0) (by omega)
theorem row2_1 (h : w.rowIs g t 2 (fn2 a b)) : w.cell? ⟨g, 1, none⟩ = some b := h.cell (i := 1) (by omega)
theorem row3_0 (h : w.rowIs g t 3 (fn3 a b c)) : w.cell? ⟨g, 0, none⟩ = some a := h.cell (i := 0) (by omega)
theorem row3_1 (h : w.rowIs g t 3 (fn3 a b c)) : w.cell? ⟨g, 1, none⟩ = some b := h.cell (i := 1) (by omega)
theorem row3_2 (h : w.rowIs g t 3 (fn3 a b c)) : w.cell? ⟨g, 2, none⟩ = some c := h.cell (i := 2) (by omega)
theorem row2_set (h : w.rowIs g t 2 (fn2 a b)) (x y : Value) : ((w.setCell ⟨g, 0, none⟩ x).setCell ⟨g, 1, none⟩ y).rowIs g t 2 (fn2 x y) :=
  ((h.set 0 x).set 1 y).congr (fun i hi => by
    have : i = 0 ∨ i = 1 := by omega
    rcases this with rfl | rfl <;> rfl)
theorem pl_two (h : w.rowIs g t 2 (fn2 a b)) : w.heap[g]? = some (.cells #[a, b] t (0, 0)) := by
  obtain ⟨cs, h1, h2, h3⟩ := h
  have e : cs = #[a, b] := by
    apply Array.ext (by simp [h2])
    intro i hi _
    have : i = 0 ∨ i = 1 := by rw [h2] at hi; omega
    rcases this with rfl | rfl
    · have := h3 0 (by omega)
      rw [Array.getElem?_eq_getElem hi] at this
      simpa [fn2] using this
    · have := h3 1 (by omega)
      rw [Array.getElem?_eq_getElem hi] at this
      simpa [fn2] using this
  rw [← e]; exact h1
end
theorem keep_set2 {w : World} {g b : Nat} {t t' : TypeId} {n : Nat} {f f' : Nat → Value} (_hz : w.rowIs g t 2 f) (hx : w.rowIs b t' n f') (hb : b < g) (u v : Value) : ((w.setCell ⟨g, 0, none⟩ u).setCell ⟨g, 1, none⟩ v).rowIs b t' n f' :=
  (hx.setOther (a := ⟨g, 0, none⟩) (by show b ≠ g; omega) u).setOther (a := ⟨g, 1, none⟩) (by show b ≠ g; omega) v

/-- What a call that returns a view leaves: two slices of its own, apart from each other. -/
def Apart (A A' : Option Addr) : Prop := ∀ ad ad', A = some ad → A' = some ad' → ad.block ≠ ad'.block
def RetView (w : World) (b : Bool) (s f : List Vt) (e : Ending) (w' : World) : Prop :=
  ∃ A n c A' n' c', e = .returned (.tuple #[.agg #[.slice A n c, .slice A' n' c'], .bool b]) ∧ OwnV w' w.heap.size A n s ∧ OwnV w' w.heap.size A' n' f ∧ Apart A A' ∧ Below w.heap.size w w'

set_option maxRecDepth 100000 in
theorem szView_g (V : Option Addr) (n c : Nat) (V' : Option Addr) (n' c' : Nat) (L : Int) (w : World) (hn : n ≤ 9223372036854775807) (hn' : n' ≤ 9223372036854775807) (hL0 : 0 ≤ L) (hL1 : L ≤ 1048576) :
    Calls Try.prog 37 #[.agg #[.slice V n c, .slice V' n' c'], .int .i64 L] w fun e w' => e = .returned (.int .i64 (if (n : Int) + n' ≤ L then L - ((n : Int) + n') else -1)) ∧ Below w.heap.size w w' := by
  have r2 := Lib.hid (bx_row2 w (.slice V n c) (.slice V' n' c') 59)
  have hb := Lib.hid (bx_below w (.cells #[.slice V n c, .slice V' n' c'] 59))
  have c0 := row2_0 r2.out
  have c1 := row2_1 r2.out
  by_cases h : (n : Int) ≤ L
  · have h' : ¬ (L - (n : Int) < 0) := by omega
    have hc := Lib.hid (fun W => szPool_g V n c L W hn hL0 hL1)
    rw [if_pos h] at hc
    by_cases h2 : (n' : Int) ≤ L - n
    · have hr := Lib.hid (show (if (n : Int) + n' ≤ L then L - ((n : Int) + n') else -1) = L - n - n' by rw [if_pos (by omega)]; omega)
      have h2' : ¬ (L - (n : Int) - (n' : Int) < 0) := by omega
      have hc' := Lib.hid (fun W => szPool_g V' n' c' (L - n) W hn' (by omega) (by omega))
      rw [if_pos h2] at hc'
      go_enter Try.func37, Try.ntmps37
      go_wp2_with fail
      refine (hc.out _).mono ?_
      rintro e w1 ⟨rfl, b1⟩
      have u1 := Lib.hid (hb.out.trans (b1.mono hb.out.size))
      have d1 := row2_1 (rowIs_below r2.out b1 r2.out.lt)
      clear c0 c1 b1
      go_wp2_with fail
      refine (hc'.out _).mono ?_
      rintro e w2 ⟨rfl, b2⟩
      have u2 := Lib.hid (u1.out.trans (b2.mono u1.out.size))
      clear d1 b2
      go_wp2_with fail
      go_ret
      first | exact ⟨ret_int hr.out.symm, u2.out⟩ | exact ⟨rfl, u2.out⟩ | exact ⟨ret_int (by omega), u2.out⟩
    · have hr := Lib.hid (show (if (n : Int) + n' ≤ L then L - ((n : Int) + n') else -1) = -1 by rw [if_neg (by omega)])
      have hc' := Lib.hid (fun W => szPool_g V' n' c' (L - n) W hn' (by omega) (by omega))
      rw [if_neg h2] at hc'
      go_enter Try.func37, Try.ntmps37
      go_wp2_with fail
      refine (hc.out _).mono ?_
      rintro e w1 ⟨rfl, b1⟩
      have u1 := Lib.hid (hb.out.trans (b1.mono hb.out.size))
      have d1 := row2_1 (rowIs_below r2.out b1 r2.out.lt)
      clear c0 c1 b1
      go_wp2_with fail
      refine (hc'.out _).mono ?_
      rintro e w2 ⟨rfl, b2⟩
      have u2 := Lib.hid (u1.out.trans (b2.mono u1.out.size))
      clear d1 b2
      go_wp2_with fail
      go_ret
      first | exact ⟨ret_int hr.out.symm, u2.out⟩ | exact ⟨rfl, u2.out⟩ | exact ⟨ret_int (by omega), u2.out⟩
  · have hr := Lib.hid (show (if (n : Int) + n' ≤ L then L - ((n : Int) + n') else -1) = -1 by rw [if_neg (by omega)])
    have hc := Lib.hid (fun W => szPool_g V n c L W hn hL0 hL1)
    rw [if_neg h] at hc
    go_enter Try.func37, Try.ntmps37
    go_wp2_with fail
    refine (hc.out _).mono ?_
    rintro e w1 ⟨rfl, b1⟩
    have u1 := Lib.hid (hb.out.trans (b1.mono hb.out.size))
    clear c0 c1 b1
    go_wp2_with fail
    go_ret
    first | exact ⟨ret_int hr.out.symm, u1.out⟩ | exact ⟨rfl, u1.out⟩

set_option maxRecDepth 100000 in
theorem eqView_b (V V' : Option Addr) (n n' c c' : Nat) (vs : List Vt) (U U' : Option Addr) (m m' d d' : Nat) (us : List Vt) (w : World) (h : VotesAt w w.heap.size V n vs) (h' : VotesAt w w.heap.size V' n' vs) (k : VotesAt w w.heap.size U m us) (k' : VotesAt w w.heap.size U' m' us) (hn : n ≤ 1048576) (hn' : n' ≤ 1048576) (hm : m ≤ 1048576) (hm' : m' ≤ 1048576) :
    Calls Try.prog 41 #[.agg #[.slice V n c, .slice U m d], .agg #[.slice V' n' c', .slice U' m' d']] w fun e w' => e = .returned (.bool true) ∧ Below w.heap.size w w' := by
  have hr := Lib.hid h; have hr' := Lib.hid h'; have kr := Lib.hid k; have kr' := Lib.hid k'; clear h h' k k'
  have b0 := bx_below w (.cells #[.slice V n c, .slice U m d] 63)
  have r1 := bx_row2 w (.slice V n c) (.slice U m d) 63
  have b1 := bx_below (w.alloc (.cells #[.slice V n c, .slice U m d] 63)) (.cells #[.slice V' n' c', .slice U' m' d'] 63)
  have r2 := bx_row2 (w.alloc (.cells #[.slice V n c, .slice U m d] 63)) (.slice V' n' c') (.slice U' m' d') 63
  rw [show (w.alloc (.cells #[.slice V n c, .slice U m d] 63)).heap.size = w.heap.size + 1 by simp] at r2
  have q1 := Lib.hid (rowIs_below r1 b1 r1.lt); have q2 := Lib.hid r2
  have u0 := Lib.hid (b0.trans (b1.mono b0.size))
  have c0 := row2_0 q1.out; have c1 := row2_1 q1.out; have d0 := row2_0 q2.out; have d1 := row2_1 q2.out
  clear b0 b1 r1 r2
  go_enter Try.func41, Try.ntmps41
  go_wp2_with fail
  refine (eqPool_b V V' n n' c c' vs _ (hr.out.up u0.out) (hr'.out.up u0.out) hn hn').mono ?_
  rintro e w1 ⟨rfl, b2⟩
  have u1 := Lib.hid (u0.out.trans (b2.mono u0.out.size))
  have e1 := row2_1 (rowIs_below q1.out b2 q1.out.lt)
  have e2 := row2_1 (rowIs_below q2.out b2 q2.out.lt)
  clear c0 c1 d0 d1 b2
  go_wp2_with fail
  refine (eqPool_b U U' m m' d d' us _ (kr.out.up u1.out) (kr'.out.up u1.out) hm hm').mono ?_
  rintro e w2 ⟨rfl, b3⟩
  have u2 := Lib.hid (u1.out.trans (b3.mono u1.out.size))
  clear e1 e2 b3
  go_wp2_with fail
  go_ret
  exact ⟨rfl, u2.out⟩

theorem bx3v_rows (w : World) (a b : Value) (t t' : TypeId) :
    (((w.alloc (.cells #[a, b] t)).alloc (.cells #[.slice none 0 0, .slice none 0 0] t')).alloc (.cells #[.slice none 0 0, .slice none 0 0] t')).rowIs w.heap.size t 2 (fn2 a b) ∧
    (((w.alloc (.cells #[a, b] t)).alloc (.cells #[.slice none 0 0, .slice none 0 0] t')).alloc (.cells #[.slice none 0 0, .slice none 0 0] t')).rowIs (w.heap.size + 1) t' 2 (fn2 (.slice none 0 0) (.slice none 0 0)) ∧
    (((w.alloc (.cells #[a, b] t)).alloc (.cells #[.slice none 0 0, .slice none 0 0] t')).alloc (.cells #[.slice none 0 0, .slice none 0 0] t')).rowIs (w.heap.size + 2) t' 2 (fn2 (.slice none 0 0) (.slice none 0 0)) ∧
    Below w.heap.size w (((w.alloc (.cells #[a, b] t)).alloc (.cells #[.slice none 0 0, .slice none 0 0] t')).alloc (.cells #[.slice none 0 0, .slice none 0 0] t')) ∧
    (((w.alloc (.cells #[a, b] t)).alloc (.cells #[.slice none 0 0, .slice none 0 0] t')).alloc (.cells #[.slice none 0 0, .slice none 0 0] t')).heap.size = w.heap.size + 3 := by
  have r1 := bx_row2 w a b t
  have b1 := bx_below w (.cells #[a, b] t)
  have s1 : (w.alloc (.cells #[a, b] t)).heap.size = w.heap.size + 1 := by simp
  have r2 := bx_row2 (w.alloc (.cells #[a, b] t)) (.slice none 0 0) (.slice none 0 0) t'
  have b2 := bx_below (w.alloc (.cells #[a, b] t)) (.cells #[.slice none 0 0, .slice none 0 0] t')
  have s2 : ((w.alloc (.cells #[a, b] t)).alloc (.cells #[.slice none 0 0, .slice none 0 0] t')).heap.size = w.heap.size + 2 := by simp
  have r3 := bx_row2 ((w.alloc (.cells #[a, b] t)).alloc (.cells #[.slice none 0 0, .slice none 0 0] t')) (.slice none 0 0) (.slice none 0 0) t'
  have b3 := bx_below ((w.alloc (.cells #[a, b] t)).alloc (.cells #[.slice none 0 0, .slice none 0 0] t')) (.cells #[.slice none 0 0, .slice none 0 0] t')
  have q1 := rowIs_below (rowIs_below r1 b2 r1.lt) b3 (by rw [s2]; omega)
  have q2 := rowIs_below r2 b3 r2.lt
  rw [s1] at q2
  rw [s2] at r3
  exact ⟨q1, q2, r3, b1.trans ((b2.mono b1.size).trans (b3.mono (by rw [s2]; omega))), by simp⟩

set_option maxRecDepth 100000 in
set_option maxHeartbeats 800000 in
theorem toView_g (V : Option Addr) (n c : Nat) (vs : List Vt) (U : Option Addr) (m d : Nat) (us : List Vt) (w : World) (h : VotesAt w w.heap.size V n vs) (k : VotesAt w w.heap.size U m us) (hn : n ≤ 1048576) (hm : m ≤ 1048576) :
    Calls Try.prog 39 #[.agg #[.slice V n c, .slice U m d]] w fun e w' => ∃ g g', e = .returned (.agg #[.slice (some ⟨g, 0, none⟩) n n, .slice (some ⟨g', 0, none⟩) m m]) ∧ w'.rowIs g 53 (n * 3) (cellsV vs) ∧ w'.rowIs g' 53 (m * 3) (cellsV us) ∧ Below w.heap.size w w' ∧ w.heap.size ≤ g ∧ g < g' ∧ g' < w'.heap.size := by
  have hr := Lib.hid h; have kr := Lib.hid k; clear h k
  obtain ⟨r1, r2, r3, bW, sW⟩ := bx3v_rows w (.slice V n c) (.slice U m d) 59 63
  have q1 := Lib.hid r1; have q2 := Lib.hid r2; have q3 := Lib.hid r3; have u0 := Lib.hid bW; have hs := Lib.hid sW
  have c0 := row2_0 q1.out; have c1 := row2_1 q1.out
  have z3 := q3.out.frozen 0
  clear r1 r2 r3 bW sW
  go_enter Try.func39, Try.ntmps39
  go_wp2_with fail
  refine (toPool_g V n c vs _ (hr.out.up u0.out) hn).mono ?_
  rintro e w1 ⟨g, rfl, rg, b1, lg, hg⟩
  rw [hs.out] at lg
  have p1 := (rowIs_below q1.out b1 q1.out.lt).setOther (a := ⟨w.heap.size + 2, 0, none⟩) (by show w.heap.size ≠ w.heap.size + 2; omega) (.slice (some ⟨g, 0, none⟩) n n)
  have p2 := (rowIs_below q2.out b1 q2.out.lt).setOther (a := ⟨w.heap.size + 2, 0, none⟩) (by show w.heap.size + 1 ≠ w.heap.size + 2; omega) (.slice (some ⟨g, 0, none⟩) n n)
  have p3 := (rowIs_below q3.out b1 q3.out.lt).set 0 (.slice (some ⟨g, 0, none⟩) n n)
  have rg2 := Lib.hid (rg.setOther (a := ⟨w.heap.size + 2, 0, none⟩) (by show g ≠ w.heap.size + 2; omega) (.slice (some ⟨g, 0, none⟩) n n))
  have u1 := Lib.hid ((u0.out.trans (b1.mono u0.out.size)).setCell (p := ⟨w.heap.size + 2, 0, none⟩) (by show w.heap.size ≤ w.heap.size + 2; omega) (.slice (some ⟨g, 0, none⟩) n n))
  have v1 := Lib.hid p1; have v2 := Lib.hid p2; have v3 := Lib.hid p3
  have e0 := (rowIs_below q3.out b1 q3.out.lt).cell (i := 0) (by omega)
  have f0 := (rowIs_below q3.out b1 q3.out.lt).frozen 0
  have d1 := row2_1 v1.out
  have lg' := Lib.hid lg; have hg' := Lib.hid hg
  clear c0 c1 z3 rg b1 p1 p2 p3 lg hg
  go_wp2_with fail
  refine (toPool_g U m d us _ (kr.out.up u1.out) hm).mono ?_
  rintro e w2 ⟨g', rfl, rk, b2, lk, hk⟩
  simp only [World.size_setCell] at lk
  have p2 := (rowIs_below v2.out b2 v2.out.lt).setOther (a := ⟨w.heap.size + 2, 1, none⟩) (by show w.heap.size + 1 ≠ w.heap.size + 2; omega) (.slice (some ⟨g', 0, none⟩) m m)
  have p3 := ((rowIs_below v3.out b2 v3.out.lt).set 1 (.slice (some ⟨g', 0, none⟩) m m)).congr (g := fn2 (.slice (some ⟨g, 0, none⟩) n n) (.slice (some ⟨g', 0, none⟩) m m)) (fun i hi => by
    have : i = 0 ∨ i = 1 := by omega
    rcases this with rfl | rfl <;> rfl)
  have rg3 := Lib.hid ((rowIs_below rg2.out b2 rg2.out.lt).setOther (a := ⟨w.heap.size + 2, 1, none⟩) (by show g ≠ w.heap.size + 2; have := lg'.out; omega) (.slice (some ⟨g', 0, none⟩) m m))
  have rk3 := Lib.hid (rk.setOther (a := ⟨w.heap.size + 2, 1, none⟩) (by show g' ≠ w.heap.size + 2; have := lg'.out; have := hg'.out; omega) (.slice (some ⟨g', 0, none⟩) m m))
  have u2 := Lib.hid ((u1.out.trans (b2.mono u1.out.size)).setCell (p := ⟨w.heap.size + 2, 1, none⟩) (by show w.heap.size ≤ w.heap.size + 2; omega) (.slice (some ⟨g', 0, none⟩) m m))
  have x2 := Lib.hid p2; have x3 := Lib.hid p3
  have e1 := (rowIs_below v3.out b2 v3.out.lt).cell (i := 1) (by omega)
  have f1 := (rowIs_below v3.out b2 v3.out.lt).frozen 1
  have y0 := row2_0 x3.out; have y1 := row2_1 x3.out
  have z0 := x2.out.frozen 0; have z1 := x2.out.frozen 1
  have t0 := row2_0 x2.out; have t1 := row2_1 x2.out
  have lk' := Lib.hid lk; have hk' := Lib.hid hk
  clear e0 f0 d1 rk b2 p2 p3 lk hk
  go_wp2_with fail
  refine bodyPost_ret (results_cell_row rfl _ _ (w.heap.size + 1) 63 #[.slice (some ⟨g, 0, none⟩) n n, .slice (some ⟨g', 0, none⟩) m m] (0, 0) _ rfl (pl_two (row2_set x2.out _ _)) Try.underlying63 rfl (by kernel_rfl)) rfl ?_
  refine ⟨g, g', rfl, ?_, ?_, (u2.out.setCell (p := ⟨w.heap.size + 1, 0, none⟩) (by show w.heap.size ≤ w.heap.size + 1; omega) _).setCell (p := ⟨w.heap.size + 1, 1, none⟩) (by show w.heap.size ≤ w.heap.size + 1; omega) _, by have := lg'.out; omega, by have := lk'.out; have := hg'.out; omega, by simpa using hk'.out⟩
  · exact (rg3.out.setOther (a := ⟨w.heap.size + 1, 0, none⟩) (by show g ≠ w.heap.size + 1; have := lg'.out; omega) _).setOther (a := ⟨w.heap.size + 1, 1, none⟩) (by show g ≠ w.heap.size + 1; have := lg'.out; omega) _
  · exact (rk3.out.setOther (a := ⟨w.heap.size + 1, 0, none⟩) (by show g' ≠ w.heap.size + 1; have := lg'.out; have := lk'.out; have := hg'.out; omega) _).setOther (a := ⟨w.heap.size + 1, 1, none⟩) (by show g' ≠ w.heap.size + 1; have := lg'.out; have := lk'.out; have := hg'.out; omega) _

set_option maxRecDepth 100000 in
theorem markView_b (g n c : Nat) (vs : List Vt) (g' m d : Nat) (us : List Vt) (k : Int) (w : World) (hl : vs.length = n) (hl' : us.length = m) (h : w.rowIs g 53 (n * 3) (cellsV vs)) (h' : w.rowIs g' 53 (m * 3) (cellsV us)) (hgg : g ≠ g') (hn : n ≤ 1048576) (hm : m ≤ 1048576) (hk0 : 0 ≤ k) (hk1 : k ≤ 2147483648) :
    Calls Try.prog 44 #[.agg #[.slice (some ⟨g, 0, none⟩) n c, .slice (some ⟨g', 0, none⟩) m d], .int .i64 k] w fun e w' => e = .returned (.int .i64 (k + ((n : Int) + m) * 3)) ∧ ∃ w1, OnlyO (some ⟨g, 0, none⟩) w w1 ∧ OnlyO (some ⟨g', 0, none⟩) w1 w' := by
  have b0 := bx_below w (.cells #[.slice (some ⟨g, 0, none⟩) n c, .slice (some ⟨g', 0, none⟩) m d] 63)
  have r0 := bx_row2 w (.slice (some ⟨g, 0, none⟩) n c) (.slice (some ⟨g', 0, none⟩) m d) 63
  have q0 := Lib.hid r0; have u0 := Lib.hid b0
  have ra := Lib.hid (rowIs_below h b0 h.lt); have rb := Lib.hid (rowIs_below h' b0 h'.lt)
  have lg := h.lt; have lg' := h'.lt
  have c0 := row2_0 q0.out; have c1 := row2_1 q0.out
  have hr := Lib.hid (show k + (n : Int) * 3 + (m : Int) * 3 = k + ((n : Int) + m) * 3 by omega)
  clear b0 r0 h h'
  go_enter Try.func44, Try.ntmps44
  go_wp2_with fail
  refine (markPool_b g n c vs k _ hl ra.out hn hk0 (by omega)).mono ?_
  rintro e w1 ⟨rfl, o1⟩
  have d1 := row2_1 (q0.out.of_block (o1.block w.heap.size (by simp) (by omega)))
  have rb1 := Lib.hid (rb.out.of_block (o1.block g' (by simp; omega) (fun e => hgg e.symm)))
  have o1' := Lib.hid o1
  clear c0 c1 o1
  go_wp2_with fail
  refine (markPool_b g' m d us _ _ hl' rb1.out hm (by omega) (by omega)).mono ?_
  rintro e w2 ⟨rfl, o2⟩
  have o2' := Lib.hid o2
  clear d1 o2
  go_wp2_with fail
  go_ret
  refine ⟨ret_int hr.out, w1, ⟨o1'.out.os.trans u0.out.os, o1'.out.tape.trans u0.out.tape, o1'.out.output.trans u0.out.output, Nat.le_trans u0.out.size o1'.out.size, fun j hj hd => (o1'.out.block j (Nat.lt_of_lt_of_le hj u0.out.size) (hd _ rfl)).trans (u0.out.block j hj)⟩, o2'.out.o⟩

set_option maxRecDepth 100000 in
theorem markViewR_b (A : Option Addr) (n c B : Nat) (vs : List Vt) (A' : Option Addr) (m d B' : Nat) (us : List Vt) (k : Int) (w : World) (h : OwnV w B A n vs) (h' : OwnV w B' A' m us) (hap : Apart A A') (hn : n ≤ 1048576) (hm : m ≤ 1048576) (hk0 : 0 ≤ k) (hk1 : k ≤ 2147483648) :
    Calls Try.prog 44 #[.agg #[.slice A n c, .slice A' m d], .int .i64 k] w fun e w' => e = .returned (.int .i64 (k + ((n : Int) + m) * 3)) ∧ OwnV w' B A n (vmarks k n) ∧ OwnV w' B' A' m (vmarks (k + (n : Int) * 3) m) ∧ ∃ w1, OnlyO A w w1 ∧ OnlyO A' w1 w' := by
  have b0 := bx_below w (.cells #[.slice A n c, .slice A' m d] 63)
  have r0 := bx_row2 w (.slice A n c) (.slice A' m d) 63
  have q0 := Lib.hid r0; have u0 := Lib.hid b0
  have ha := Lib.hid (h.below b0); have hb := Lib.hid (h'.below b0)
  have hlow := Lib.hid (show ∀ ad, A = some ad → ad.block < w.heap.size from fun ad e => (h.low ad e).2)
  have c0 := row2_0 q0.out; have c1 := row2_1 q0.out
  have hr := Lib.hid (show k + (n : Int) * 3 + (m : Int) * 3 = k + ((n : Int) + m) * 3 by omega)
  have hap' := Lib.hid hap
  clear b0 r0 h h' hap
  go_enter Try.func44, Try.ntmps44
  go_wp2_with fail
  refine (markPoolR_b A n c B vs k _ ha.out hn hk0 (by omega)).mono ?_
  rintro e w1 ⟨rfl, p1, o1⟩
  have d1 := row2_1 (q0.out.of_block (o1.block w.heap.size (by simp) (fun ad e => by have := hlow.out ad e; omega)))
  have hb1 := Lib.hid (hb.out.o o1 (fun ad ad' e e' => (hap'.out ad' ad e' e).symm))
  have o1' := Lib.hid o1; have p1' := Lib.hid p1
  clear c0 c1 o1 p1
  go_wp2_with fail
  refine (markPoolR_b A' m d B' us _ _ hb1.out hm (by omega) (by omega)).mono ?_
  rintro e w2 ⟨rfl, p2, o2⟩
  have o2' := Lib.hid o2; have p2' := Lib.hid p2
  clear d1 o2 p2
  go_wp2_with fail
  go_ret
  refine ⟨ret_int hr.out, p1'.out.o o2'.out (fun ad ad' e e' => hap'.out ad ad' e e'), p2'.out, w1, ⟨o1'.out.os.trans u0.out.os, o1'.out.tape.trans u0.out.tape, o1'.out.output.trans u0.out.output, Nat.le_trans u0.out.size o1'.out.size, fun j hj hd => (o1'.out.block j (Nat.lt_of_lt_of_le hj u0.out.size) hd).trans (u0.out.block j hj)⟩, o2'.out⟩

set_option maxRecDepth 100000 in
theorem heldView_b (A : Option Addr) (n c : Nat) (A' : Option Addr) (m d : Nat) (k : Int) (w : World) (h : VotesAt w w.heap.size A n (vmarks k n)) (h' : VotesAt w w.heap.size A' m (vmarks (k + (n : Int) * 3) m)) (hn : n ≤ 1048576) (hm : m ≤ 1048576) (hk0 : 0 ≤ k) (hk1 : k ≤ 2147483648) :
    Calls Try.prog 45 #[.agg #[.slice A n c, .slice A' m d], .int .i64 k] w fun e w' => e = .returned (.int .i64 (k + ((n : Int) + m) * 3)) ∧ Below w.heap.size w w' := by
  have b0 := bx_below w (.cells #[.slice A n c, .slice A' m d] 63)
  have r0 := bx_row2 w (.slice A n c) (.slice A' m d) 63
  have q0 := Lib.hid r0; have u0 := Lib.hid b0
  have ha := Lib.hid (h.up b0); have hb := Lib.hid (h'.up b0)
  have c0 := row2_0 q0.out; have c1 := row2_1 q0.out
  have hr := Lib.hid (show k + (n : Int) * 3 + (m : Int) * 3 = k + ((n : Int) + m) * 3 by omega)
  have h1 : ¬ (k + (n : Int) * 3 < 0) := by omega
  have h2 : ¬ (k + (n : Int) * 3 + (m : Int) * 3 < 0) := by omega
  clear b0 r0 h h'
  go_enter Try.func45, Try.ntmps45
  go_wp2_with fail
  refine (heldPool_b A n c k _ ha.out hn hk0 (by omega)).mono ?_
  rintro e w1 ⟨rfl, b1⟩
  have u1 := Lib.hid (u0.out.trans (b1.mono u0.out.size))
  have d1 := row2_1 (rowIs_below q0.out b1 q0.out.lt)
  have hb1 := Lib.hid (hb.out.up b1)
  clear c0 c1 b1
  go_wp2_with fail
  refine (heldPool_b A' m d _ _ hb1.out hm (by omega) (by omega)).mono ?_
  rintro e w2 ⟨rfl, b2⟩
  have u2 := Lib.hid (u1.out.trans (b2.mono u1.out.size))
  clear d1 b2
  go_wp2_with fail
  go_ret
  exact ⟨ret_int hr.out, u2.out⟩
end Go.Proofs.Ytlobjfipefibaaa
