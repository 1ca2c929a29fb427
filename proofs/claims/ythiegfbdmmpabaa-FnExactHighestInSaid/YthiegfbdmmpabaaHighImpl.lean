/- What is proved here: what the program's HighestIn returns. No conditions but lengths. -/
import Derived.Test.YthiegfbdmmpabaaJustImpl
import Derived.Test.YthiegfbdmmpabaaHighSpec
import Derived.Deep.RegionWith
namespace Go.Proofs.Ythiegfbdmmpabaa
open Go.RowKit

def or2 (x y : Int) : Int := if x ≠ 0 then x else y
theorem or2_any (g : Nat) (x y : Int) (w : World) (h0 : w.cell? ⟨g, 0, none⟩ = some (.int .i64 x)) (h1 : w.cell? ⟨g, 1, none⟩ = some (.int .i64 y)) :
    Calls Try.prog 104 #[.slice (some ⟨g, 0, none⟩) 2 2] w fun e w' => e = .returned (.int .i64 (or2 x y)) ∧ w' = w := by
  have hc : ∀ k, k < 2 → w.cell? ⟨g, 0 + k, none⟩ = some (.int .i64 (if k = 0 then x else y)) := fun k hk => by
    have : k = 0 ∨ k = 1 := by omega
    rcases this with rfl | rfl <;> simp [h0, h1]
  have hc' := Lib.hid hc
  clear hc h0 h1
  go_enter Try.func104, Try.ntmps104
  go_wp2
  go_loop [5, 8] (fun _ i => ∃ k : Nat, k ≤ 2 ∧ i = .int .i64 k ∧ Hid (∀ j, j < k → (if j = 0 then x else y) = 0)) (fun _ i => 2 - (intOf i).toNat)
  case atStart => exact ⟨0, by omega, rfl, Lib.hid (fun j hj => absurd hj (Nat.not_lt_zero _))⟩
  case round =>
    obtain ⟨k, hk, rfl, hall⟩ := hrel
    by_cases hlt : k < 2
    · have hck := hc'.out k hlt
      rw [Nat.zero_add] at hck
      obtain ⟨v, hv⟩ : ∃ v, (if k = 0 then x else y) = v := ⟨_, rfl⟩
      rw [hv] at hck
      have hkI : (k : Int) < 2 := by omega
      have hv' := Lib.hid hv
      clear hv
      by_cases hz : v = 0
      · have hne : (v != 0) = false := by simp [hz]
        have hnext := Lib.hid (show ∀ j, j < k + 1 → (if j = 0 then x else y) = 0 from fun j hj => by
          by_cases e : j = k
          · subst e; exact hv'.out.trans hz
          · exact hall.out j (by omega))
        clear hz
        go_wp2
        go_round
        case rel => exact ⟨k + 1, by omega, by go_num, hnext⟩
        case measure => simp [intOf]; omega
      · have hne : (v != 0) = true := by simp [hz]
        have hr := Lib.hid (show v = or2 x y by
          unfold or2
          have h3 : k = 0 ∨ k = 1 := by omega
          rcases h3 with rfl | rfl
          · have := hv'.out; simp at this; subst this; rw [if_pos hz]
          · have a0 := hall.out 0 (by omega); simp at a0
            have := hv'.out; simp at this; subst this
            rw [if_neg (by simp [a0])])
        clear hz
        go_wp2
        go_ret
        exact ⟨ret_int hr.out, rfl⟩
    · have hk2 : k = 2 := by omega
      have hr := Lib.hid (show (0 : Int) = or2 x y by
        unfold or2
        have a0 := hall.out 0 (by omega); simp at a0
        have a1 := hall.out 1 (by omega); simp at a1
        rw [if_neg (by simp [a0]), a1])
      clear hk2
      go_wp2
      go_ret
      exact ⟨ret_int hr.out, rfl⟩
theorem row_two (w : World) (x y : Int) : (w.alloc (.cells #[.int .i64 x, .int .i64 y] 3)).cell? ⟨w.heap.size, 0, none⟩ = some (.int .i64 x) ∧ (w.alloc (.cells #[.int .i64 x, .int .i64 y] 3)).cell? ⟨w.heap.size, 1, none⟩ = some (.int .i64 y) := by
  have h : (w.alloc (.cells #[.int .i64 x, .int .i64 y] 3)).rowIs w.heap.size 3 2 (fun i => if i = 0 then .int .i64 x else .int .i64 y) :=
    ⟨_, heap_alloc_new _ _, rfl, fun i hi => by
      have : i = 0 ∨ i = 1 := by omega
      rcases this with rfl | rfl <;> rfl⟩
  exact ⟨h.cell (by omega), h.cell (by omega)⟩

/-- The program's comparison of two blocks: by depth, then by number. -/
def hcmp (ts : List Blk) (a b : Nat) : Int := or2 (cmpI (dep ts a) (dep ts b)) (cmpI a b)
theorem hcmp_pos {ts : List Blk} {a b : Nat} (hba : b < a) : decide (0 < hcmp ts a b) = decide (dep ts b ≤ dep ts a) := by
  refine decide_eq_decide.2 ?_
  unfold hcmp or2 cmpI
  by_cases h1 : (dep ts a : Int) < dep ts b
  · rw [if_pos h1, if_pos (by decide)]
    constructor
    · intro h; omega
    · intro h; omega
  · rw [if_neg h1]
    by_cases h2 : (dep ts b : Int) < dep ts a
    · rw [if_pos h2, if_pos (by decide)]
      constructor
      · intro _; omega
      · intro _; decide
    · rw [if_neg h2, if_neg (by decide), if_neg (by omega), if_pos (by omega)]
      constructor
      · intro _; omega
      · intro _; decide

set_option maxRecDepth 100000 in
set_option maxHeartbeats 3200000 in
theorem high1_any (A : Option Addr) (n c : Nat) (ts : List Blk) (a b g : Nat) (w : World) (h : BlksAt w w.heap.size A n ts) (hn : n ≤ 1048576) (ht : Tree ts) (ha : a < n) (hb : b < n) (hc : w.rowIs g 28 1 (fun _ => .slice A n c)) :
    Calls Try.prog 103 #[.int .i64 a, .int .i64 b, .pointer (some ⟨g, 0, none⟩)] w (UpPost w (.int .i64 (hcmp ts a b))) := by
  have hD := Lib.hid (show BlksAt w.drew w.drew.heap.size A n ts from ⟨h.1, h.2⟩)
  have rD := Lib.hid (show w.drew.rowIs g 28 1 (fun _ => .slice A n c) from hc)
  have c0 := hc.cell (i := 0) (by omega)
  have c1 : w.drew.cell? ⟨g, 0, none⟩ = some (.slice A n c) := rD.out.cell (i := 0) (by omega)
  clear h hc
  go_enter Try.func103, Try.ntmps103
  go_upto_region 1 with fail
  have tk0 : True := trivial
  go_region_with (first
    | (clear tk0
       go_at_call 106
       refine (depthIn_any A n c ts a w.drew hD.out hn ht ha).mono ?_
       rintro e w1 ⟨rfl, b1⟩
       have u1 := Lib.hid (show Below w.heap.size w w1 from ⟨b1.os, b1.tape, b1.output, b1.size, b1.block⟩)
       have h1 := Lib.hid (hD.out.up b1)
       have r1 := Lib.hid (rowIs_below rD.out b1 rD.out.lt)
       have d1 := r1.out.cell (i := 0) (by omega)
       clear b1
       have tk1 : True := trivial)
    | (clear tk1
       go_at_call 106
       refine (depthIn_any A n c ts b w1 h1.out hn ht hb).mono ?_
       rintro e w2 ⟨rfl, b2⟩
       have u2 := Lib.hid (u1.out.trans (b2.mono u1.out.size))
       clear b2
       have tk2 : True := trivial)
    | (clear tk2
       go_at_call 105
       refine (compareI_any _ _ _).mono ?_
       rintro e w3 ⟨rfl, rfl⟩
       have tk3 : True := trivial)
    | (clear tk3
       go_at_call 105
       refine (compareI_any _ _ _).mono ?_
       rintro e w4 ⟨rfl, rfl⟩
       have hr2 := row_two w4 (cmpI (dep ts a) (dep ts b)) (cmpI a b)
       have tk4 : True := trivial)
    | (clear tk4
       go_at_call 104
       refine (or2_any _ _ _ _ hr2.1 hr2.2).mono ?_
       rintro e w5 ⟨rfl, rfl⟩
       have u5 := Lib.hid (u2.out.alloc u2.out.size (.cells #[.int .i64 (cmpI (dep ts a) (dep ts b)), .int .i64 (cmpI a b)] 3))))
  all_goals
    go_wp2_with fail
    go_ret
    exact ⟨rfl, u5.out⟩

set_option maxRecDepth 100000 in
set_option maxHeartbeats 1600000 in
theorem maxF_any (AJ : Option Addr) (L cJ : Nat) (J : List Int) (A : Option Addr) (n c : Nat) (ts : List Blk) (g : Nat) (w : World) (ht : Tree ts) (h : BlksAt w w.heap.size A n ts) (hn : n ≤ 1048576) (hJ : IntsAt w w.heap.size AJ L J) (hL : L ≤ 1000) (h0 : 1 ≤ L) (hz : J[0]?.getD 0 = 0) (hup : ∀ i j, i < j → j < J.length → J[i]?.getD 0 < J[j]?.getD 0) (hnat : ∀ x ∈ J, ∃ i : Nat, x = i ∧ i < ts.length) (hc : w.rowIs g 28 1 (fun _ => .slice A n c)) :
    Calls Try.prog 102 #[.slice AJ L cJ, .func (.func 103) #[] #[.pointer (some ⟨g, 0, none⟩)]] w (UpPost w (.int .i64 (hiS ts J J.length))) := by
  have hL' := Lib.hid hJ.1
  have hl := Lib.hid h.1
  have iJ := Lib.hid hJ; have hnat' := Lib.hid hnat; have hup' := Lib.hid hup; have hz' := Lib.hid hz
  have hh := Lib.hid h; have ht' := Lib.hid ht; have hc' := Lib.hid hc
  obtain ⟨b0, o0, rfl, _, hc0⟩ := hJ.2 0 (by omega)
  rw [hz, Nat.add_zero] at hc0
  have hlow := Lib.hid (show ∀ k, 1 ≤ k → k < J.length → hiS ts J k < J[k]?.getD 0 ∧ 0 ≤ hiS ts J k from by
    intro k
    induction k with
    | zero => intro h; omega
    | succ k ih =>
      intro _ hk
      have hp : 0 ≤ J[k]?.getD 0 := by obtain ⟨i, e, _⟩ := getI_in hnat (k := k) (by omega); omega
      have hlt := hup k (k + 1) (by omega) hk
      simp only [hiS]
      split
      · exact ⟨hlt, hp⟩
      · by_cases hk0 : k = 0
        · subst hk0; exact ⟨by simp only [hiS]; omega, Int.le_refl _⟩
        · have := ih (by omega) (by omega); exact ⟨by omega, this.2⟩)
  have h1 := Lib.hid (show hiS ts J 1 = 0 by
    simp only [hiS]; rw [hz]; simp)
  clear hJ hnat hup hz h ht hc
  have hLI : ¬ (L : Int) < 1 := by omega
  go_enter Try.func102, Try.ntmps102
  go_wp2_with fail
  go_loopw [5, 6] (fun o i wr => ∃ k : Nat, 1 ≤ k ∧ k ≤ L ∧ i = .int .i64 k ∧ o = .int .i64 (hiS ts J k) ∧ Hid (Below w.heap.size w wr)) (fun _ i _ => L - (intOf i).toNat)
  case atStart => exact ⟨1, Nat.le_refl _, h0, rfl, by rw [h1.out], Lib.hid (Below.refl _ _)⟩
  case round =>
    obtain ⟨k, hk1, hk, rfl, rfl, hbel⟩ := hrel
    by_cases hlt : k < L
    · obtain ⟨lb, lo, e, hlb, hc0'⟩ := iJ.out.2 k hlt
      cases e
      have hc := (hbel.out.cell (p := ⟨b0, o0 + k, none⟩) hlb).trans hc0'
      obtain ⟨b, hx, hbt⟩ := getI_in hnat'.out (k := k) (by rw [hL'.out]; exact hlt)
      obtain ⟨q, hq, hqt⟩ := hiS_in ht'.out hnat'.out k
      have hst := Lib.hid (show hiS ts J (k + 1) = if dep ts q ≤ dep ts b then (b : Int) else (q : Int) by simp only [hiS]; rw [hx, hq]; rfl)
      have hqb : q < b := by have := (hlow.out k hk1 (by rw [hL'.out]; exact hlt)).1; rw [hx, hq] at this; omega
      have hpos := Lib.hid (hcmp_pos (ts := ts) hqb)
      rw [hx] at hc
      rw [hq]
      have hcl := Lib.hid (high1_any A n c ts b q g wr (hh.out.up hbel.out) hn ht'.out (by rw [← hl.out]; exact hbt) (by rw [← hl.out]; exact hqt) (rowIs_below hc'.out hbel.out hc'.out.lt))
      obtain ⟨cm, hcm⟩ : ∃ cm, hcmp ts b q = cm := ⟨_, rfl⟩
      rw [hcm] at hcl hpos
      clear hc0' hx hq hbt hqt hqb hcm
      by_cases hle : dep ts q ≤ dep ts b
      · have hnx := Lib.hid (show hiS ts J (k + 1) = (b : Int) by rw [hst.out, if_pos hle])
        have hcp : 0 < cm := of_decide_eq_true (hpos.out.trans (decide_eq_true hle))
        clear hle
        go_wp2_with fail
        refine hcl.out.mono ?_
        rintro e w4 ⟨rfl, b4⟩
        have v4 := Lib.hid (hbel.out.trans (b4.mono hbel.out.size))
        have hc5 := (b4.cell (p := ⟨b0, o0 + k, none⟩) (Nat.lt_of_lt_of_le hlb hbel.out.size)).trans hc
        clear b4 hcl
        go_wp2_with fail
        go_roundw
        case rel => exact ⟨k + 1, by omega, by omega, by go_num, by rw [hnx.out], v4⟩
        case measure => simp [intOf]; omega
      · have hnx := Lib.hid (show hiS ts J (k + 1) = (q : Int) by rw [hst.out, if_neg hle])
        have hcp : ¬ 0 < cm := of_decide_eq_false (hpos.out.trans (decide_eq_false hle))
        clear hle
        go_wp2_with fail
        refine hcl.out.mono ?_
        rintro e w4 ⟨rfl, b4⟩
        have v4 := Lib.hid (hbel.out.trans (b4.mono hbel.out.size))
        clear b4 hcl
        go_wp2_with fail
        go_roundw
        case rel => exact ⟨k + 1, by omega, by omega, by go_num, by rw [hnx.out], v4⟩
        case measure => simp [intOf]; omega
    · have hke := Lib.hid (show k = J.length by rw [hL'.out]; omega)
      go_wp2_with fail
      go_ret
      exact ⟨ret_int (by rw [hke.out]), hbel.out⟩

theorem just_first (ts : List Blk) (ss : List Int) (vs : List Vt) : (justL ts ss vs)[0]?.getD 0 = 0 := by
  unfold justL
  generalize ts.length - 1 = k
  induction k with
  | zero => rfl
  | succ k ih =>
    simp only [justS]
    split
    · have h1 := (justS_len ss vs k).1
      rw [List.getElem?_append_left (by omega)]; exact ih
    · exact ih
theorem just_rise (ts : List Blk) (ss : List Int) (vs : List Vt) {i j : Nat} (hij : i < j) (hj : j < (justL ts ss vs).length) : (justL ts ss vs)[i]?.getD 0 < (justL ts ss vs)[j]?.getD 0 := by
  have h := List.pairwise_iff_getElem.1 (show (justL ts ss vs).Pairwise (· < ·) from justS_sorted ss vs _) i j (by omega) hj hij
  rw [List.getElem?_eq_getElem hj, List.getElem?_eq_getElem (show i < (justL ts ss vs).length by omega)]
  exact h

set_option maxRecDepth 100000 in
set_option maxHeartbeats 800000 in
theorem implHighest_any (A : Option Addr) (n c : Nat) (ts : List Blk) (A' : Option Addr) (n' c' : Nat) (ss : List Int) (V : Option Addr) (m d : Nat) (vs : List Vt) (w : World) (h : BlksAt w w.heap.size A n ts) (h' : IntsAt w w.heap.size A' n' ss) (hv : VotesAt w w.heap.size V m vs) (hn : n ≤ 1048576) (hn' : n' ≤ 1048576) (hm : m ≤ 1048576) :
    Calls Try.prog 37 #[.slice A n c, .slice A' n' c', .slice V m d] w (UpPost w (.tuple #[.int .i64 (highR ts ss vs), .bool (linksOk ts ss vs)])) := by
  have hmf : ∀ (fn : Fn) (first cap : Array Value) (w : World), (Instr.makeFunc fn first cap).run Try.prog w = .ok (.func fn first cap) w := fun _ _ _ _ => rfl
  obtain ⟨r1, bW, sW⟩ := bx1_rows w (.slice A n c) 28
  obtain ⟨W0, hW0⟩ : ∃ W, w.alloc (.cells #[.slice A n c] 28) = W := ⟨_, rfl⟩
  rw [hW0] at r1 bW sW
  have hju := Lib.hid (implJust_any A n c ts A' n' c' ss V m d vs W0 (h.up bW) (h'.up' bW) (hv.up bW) hn hn' hm)
  have hh := Lib.hid (h.up bW)
  have hW0' := Lib.hid hW0
  have e1 := r1.cell (i := 0) (by omega)
  have q1 := Lib.hid r1; have u0 := Lib.hid bW
  clear h h' hv hW0 r1 bW sW
  cases g : linksOk ts ss vs
  · have hr := Lib.hid (show highR ts ss vs = 0 by unfold highR; rw [g]; rfl)
    rw [g] at hju
    rw [hr.out]
    go_enter Try.func37, Try.ntmps37
    go_wp2_with fail
    rw [hW0'.out]
    go_wp2_with (go_at_call 33; refine hju.out.mono ?_; rintro e w1 ⟨AJ, L, cJ, rfl, oJ, b1⟩; have u1 := Lib.hid (u0.out.trans (b1.mono u0.out.size)); clear b1 oJ)
    go_ret2
    exact ⟨rfl, u1.out⟩
  · have ht := (linksOk_iff.1 g).1.1.1
    have hr := Lib.hid (show highR ts ss vs = hiS ts (justL ts ss vs) (justL ts ss vs).length by unfold highR; rw [g, if_pos rfl])
    have hjr := Lib.hid (show justR ts ss vs = justL ts ss vs by unfold justR; rw [g, if_pos rfl])
    have hjl := Lib.hid (justL_len (ss := ss) (ls := vs) ht)
    have hji := Lib.hid (justL_in (ss := ss) (ls := vs) ht)
    have ht' := Lib.hid ht
    rw [g] at hju
    rw [hr.out]
    clear g ht
    go_enter Try.func37, Try.ntmps37
    go_wp2_with fail
    rw [hW0'.out]
    go_wp2_with fail
    refine hju.out.mono ?_
    rintro e w1 ⟨AJ, L, cJ, rfl, oJ, b1⟩
    rw [hjr.out] at oJ
    have u1 := Lib.hid (u0.out.trans (b1.mono u0.out.size))
    have hL1 := oJ.len
    have hmx := Lib.hid (maxF_any AJ L cJ (justL ts ss vs) A n c ts w.heap.size w1 ht'.out (hh.out.up b1) hn oJ.ints (by have := hjl.out.2; omega) (by have := hjl.out.1; omega) (just_first ts ss vs) (fun i j => just_rise ts ss vs) hji.out (rowIs_below q1.out b1 q1.out.lt))
    clear b1 oJ hju e1 hL1
    go_wp2_with fail
    refine hmx.out.mono ?_
    rintro e w2 ⟨rfl, b2⟩
    have u2 := Lib.hid (u1.out.trans (b2.mono u1.out.size))
    clear b2 hmx
    go_wp2_with fail
    go_ret2
    exact ⟨rfl, u2.out⟩
end Go.Proofs.Ythiegfbdmmpabaa
