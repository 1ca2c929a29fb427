/- What is proved here: what the program's WhoLinks and IsLinked return. No conditions but lengths. -/
import Derived.Test.YthiegfbdmmpabaaLinkImpl0
import Derived.Test.YthiegfbdmmpabaaLinkApp
import Derived.Test.YthiegfbdmmpabaaLatestImpl
import Derived.Test.YthiegfbdmmpabaaPoolBox
namespace Go.Proofs.Ythiegfbdmmpabaa
open Go.RowKit

def RetLk (w : World) (vs : List Vt) (e : Ending) (w' : World) : Prop :=
  ∃ A n c, e = .returned (.slice A n c) ∧ OwnL w' w.heap.size A n vs ∧ Below w.heap.size w w'
set_option maxRecDepth 100000 in
theorem who1_any (x y z f t : Int) (g1 g2 : Nat) (w : World) (h1 : w.cell? ⟨g1, 0, none⟩ = some (.int .i64 f)) (h2 : w.cell? ⟨g2, 0, none⟩ = some (.int .i64 t)) (l1 : g1 < w.heap.size) (l2 : g2 < w.heap.size) :
    Calls Try.prog 151 #[.agg #[.int .i64 x, .int .i64 y, .int .i64 z], .pointer (some ⟨g1, 0, none⟩), .pointer (some ⟨g2, 0, none⟩)] w fun e w' => e = .returned (.bool (whoP f t (x, y, z))) ∧ Below w.heap.size w w' := by
  have r3 := three_cells w x y z 93
  have hb := Lib.hid (bx_below w (.cells #[.int .i64 x, .int .i64 y, .int .i64 z] 93))
  have c1 := r3.cell (i := 1) (by omega)
  have c2 := r3.cell (i := 2) (by omega)
  simp only [if_true, if_false, show (1 : Nat) ≠ 0 by decide, show (2 : Nat) ≠ 0 by decide, show (2 : Nat) ≠ 1 by decide] at c1 c2
  have k1 := (hb.out.cell (p := ⟨g1, 0, none⟩) l1).trans h1
  have k2 := (hb.out.cell (p := ⟨g2, 0, none⟩) l2).trans h2
  have hr := Lib.hid (show whoP f t (x, y, z) = (y == f && z == t) from rfl)
  clear r3 h1 h2
  cases e1 : (y == f)
  · rw [e1] at hr
    go_enter Try.func151, Try.ntmps151
    go_wp2_with fail
    go_ret
    exact ⟨ret_bool hr.out.symm, hb.out⟩
  · cases e2 : (z == t)
    all_goals
      rw [e1, e2] at hr
      go_enter Try.func151, Try.ntmps151
      go_wp2_with fail
      go_ret
      exact ⟨ret_bool hr.out.symm, hb.out⟩
set_option maxRecDepth 100000 in
theorem who2_any (x y z : Int) (w : World) :
    Calls Try.prog 153 #[.agg #[.int .i64 x, .int .i64 y, .int .i64 z]] w fun e w' => e = .returned (.int .i64 x) ∧ Below w.heap.size w w' := by
  have r3 := three_cells w x y z 93
  have hb := Lib.hid (bx_below w (.cells #[.int .i64 x, .int .i64 y, .int .i64 z] 93))
  have c1 := r3.cell (i := 0) (by omega)
  simp only [if_true] at c1
  clear r3
  go_enter Try.func153, Try.ntmps153
  go_wp2_with fail
  go_ret
  exact ⟨rfl, hb.out⟩

set_option maxRecDepth 100000 in
set_option maxHeartbeats 1600000 in
theorem filteredL_any (V : Option Addr) (m d : Nat) (vs : List Vt) (f t : Int) (g1 g2 : Nat) (w : World) (hv : VotesAt w w.heap.size V m vs) (hm : m ≤ 60) (h1 : w.cell? ⟨g1, 0, none⟩ = some (.int .i64 f)) (h2 : w.cell? ⟨g2, 0, none⟩ = some (.int .i64 t)) (l1 : g1 < w.heap.size) (l2 : g2 < w.heap.size) :
    Calls Try.prog 150 #[.slice V m d, .func (.func 151) #[] #[.pointer (some ⟨g1, 0, none⟩), .pointer (some ⟨g2, 0, none⟩)]] w (RetLk w (vs.filter (whoP f t))) := by
  have hlv := Lib.hid hv.1
  have hvv := Lib.hid hv; have hh1 := Lib.hid h1; have hh2 := Lib.hid h2
  clear hv h1 h2
  go_enter Try.func150, Try.ntmps150
  go_wp2_with fail
  go_loopw [5, 7, 10] (fun o _ i wr => ∃ k : Nat, k ≤ m ∧ i = .int .i64 k ∧ Hid (wr.ownsRow w.heap.size 93 3 o ((vs.take k).filter (whoP f t)).length (flatV ((vs.take k).filter (whoP f t)))) ∧ Hid (Below w.heap.size w wr)) (fun _ _ i _ => m - (intOf i).toNat)
  case atStart => exact ⟨0, Nat.zero_le _, rfl, Lib.hid (World.ownsRow_nil _ _ _ _), Lib.hid (Below.refl _ _)⟩
  case round =>
    obtain ⟨k, hk, rfl, ho, hbel⟩ := hrel
    have hws : w.heap.size ≤ wr.heap.size := hbel.out.size
    have hfl := filter_len (whoP f t) (vs := vs) (k := k) (by rw [hlv.out]; exact hk)
    by_cases hlt : k < m
    · obtain ⟨vb, vo, rfl, hvb, e0', e1', e2'⟩ := hvv.out.2 k hlt
      have e0 := (hbel.out.cell (p := ⟨vb, vo + k * 3, none⟩) hvb).trans e0'
      have e1 := (hbel.out.cell (p := ⟨vb, vo + k * 3 + 1, none⟩) hvb).trans e1'
      have e2 := (hbel.out.cell (p := ⟨vb, vo + k * 3 + 2, none⟩) hvb).trans e2'
      have hstep := Lib.hid (filter_step (whoP f t) (vs := vs) (k := k) (by rw [hlv.out]; exact hlt))
      obtain ⟨v, hvk⟩ : ∃ v, getV vs k = v := ⟨_, rfl⟩
      rw [hvk] at e0 e1 e2 hstep
      obtain ⟨x, y, z⟩ := v
      simp only at e0 e1 e2
      have hb1 := bx_below wr (.cells #[.int .i64 x, .int .i64 y, .int .i64 z] 93)
      have r3 := three_cells wr x y z 93
      obtain ⟨W, hW⟩ : ∃ W, wr.alloc (.cells #[.int .i64 x, .int .i64 y, .int .i64 z] 93) = W := ⟨_, rfl⟩
      rw [hW] at hb1 r3
      have f0 := r3.cell (i := 0) (by omega)
      have f1 := r3.cell (i := 1) (by omega)
      have f2 := r3.cell (i := 2) (by omega)
      simp only [if_true, if_false, show (1 : Nat) ≠ 0 by decide, show (2 : Nat) ≠ 0 by decide, show (2 : Nat) ≠ 1 by decide] at f0 f1 f2
      have G0 := Lib.hid f0; have G1 := Lib.hid f1; have G2 := Lib.hid f2; have gl := Lib.hid r3.lt
      have hW' := Lib.hid hW
      have u1 := Lib.hid (hbel.out.trans (hb1.mono hws))
      have o1 := Lib.hid (ownsL_belowW ho.out hb1)
      have hws1 : w.heap.size ≤ W.heap.size := Nat.le_trans hws hb1.size
      have hclo := Lib.hid (who1_any x y z f t g1 g2 W ((u1.out.cell (p := ⟨g1, 0, none⟩) l1).trans hh1.out) ((u1.out.cell (p := ⟨g2, 0, none⟩) l2).trans hh2.out) (Nat.lt_of_lt_of_le l1 hws1) (Nat.lt_of_lt_of_le l2 hws1))
      clear hW hb1 r3 e0' e1' e2' hvk
      cases hp : (whoP f t) (x, y, z)
      · have hnx := Lib.hid (show (vs.take (k + 1)).filter (whoP f t) = (vs.take k).filter (whoP f t) by rw [hstep.out, hp]; rfl)
        rw [hp] at hclo
        go_wp2_with fail
        rw [hW'.out]
        go_wp2_with fail
        refine hclo.out.mono ?_
        rintro e w3 ⟨rfl, b3⟩
        have u3 := Lib.hid (u1.out.trans (b3.mono hws1))
        have o3 := Lib.hid (ownsL_belowW o1.out b3)
        clear b3 hclo
        go_wp2_with fail
        go_roundw
        case rel => exact ⟨k + 1, by omega, by go_num, Lib.hid (by rw [hnx.out]; exact o3.out), u3⟩
        case measure => simp [intOf]; omega
      · have hnx := Lib.hid (show (vs.take (k + 1)).filter (whoP f t) = (vs.take k).filter (whoP f t) ++ [(x, y, z)] by rw [hstep.out, hp]; rfl)
        rw [hp] at hclo
        go_wp2_with fail
        rw [hW'.out]
        go_wp2_with fail
        refine hclo.out.mono ?_
        rintro e w3 ⟨rfl, b3⟩
        have u3 := Lib.hid (u1.out.trans (b3.mono hws1))
        have o3 := Lib.hid (ownsL_belowW o1.out b3)
        have k0 := (b3.cell (p := ⟨wr.heap.size, 0, none⟩) gl.out).trans G0.out
        have k1 := (b3.cell (p := ⟨wr.heap.size, 1, none⟩) gl.out).trans G1.out
        have k2 := (b3.cell (p := ⟨wr.heap.size, 2, none⟩) gl.out).trans G2.out
        have hws3 : w.heap.size ≤ w3.heap.size := Nat.le_trans hws1 b3.size
        clear b3 hclo f0 f1 f2
        have hbox := three_cells w3 x y z 93
        have g0 := hbox.cell (i := 0) (by omega)
        have g1 := hbox.cell (i := 1) (by omega)
        have g2 := hbox.cell (i := 2) (by omega)
        simp only [if_true, if_false, show (1 : Nat) ≠ 0 by decide, show (2 : Nat) ≠ 0 by decide, show (2 : Nat) ≠ 1 by decide] at g0 g1 g2
        have F0 := Lib.hid g0; have F1 := Lib.hid g1; have F2 := Lib.hid g2
        clear hbox g0 g1 g2
        go_wp2_with (at_builtin; refine appendLk _ rfl _ _ 31 rfl w.heap.size Try.underlying31 _ ((vs.take k).filter (whoP f t)) rfl (o3.out.alloc _) w3.heap.size 1 x y z rfl F0.out F1.out F2.out (by omega) (by simp; omega) ?_; intro g c9 w9 r1 r2 r3; have z1 := Lib.hid r1; have z2 := Lib.hid r2; clear r1 r2 r3)
        have u9 := Lib.hid ((u3.out.alloc hws3 (.cells #[.int .i64 x, .int .i64 y, .int .i64 z] 93)).grown z2.out (by simp; omega) (fun j e => ((o3.out.alloc (.cells #[.int .i64 x, .int .i64 y, .int .i64 z] 93)).lt j e).1))
        go_roundw
        case rel => exact ⟨k + 1, by omega, by go_num, Lib.hid (by rw [hnx.out]; simpa using z1.out), u9⟩
        case measure => simp [intOf]; omega
    · have hke := Lib.hid (filter_end (whoP f t) (vs := vs) (k := k) (by rw [hlv.out]; omega))
      obtain ⟨A', c', e, hown⟩ := OwnL.of_owns ho.out
      obtain ⟨L, hL⟩ : ∃ L, ((vs.take k).filter (whoP f t)).length = L := ⟨_, rfl⟩
      rw [hL] at e hown
      have hown' := Lib.hid hown
      subst e
      clear hown hL ho
      go_wp2_with fail
      go_ret
      exact ⟨A', L, c', rfl, by rw [← hke.out]; exact hown'.out, hbel.out⟩

theorem keys_step {vs : List Vt} {k : Nat} (h : k < vs.length) : (vs.take (k + 1)).map (·.1) = (vs.take k).map (·.1) ++ [(getV vs k).1] := by
  rw [take_getV h, List.map_append]; rfl

set_option maxRecDepth 100000 in
set_option maxHeartbeats 3200000 in
theorem keysOf_any (V : Option Addr) (m d : Nat) (vs : List Vt) (w : World) (hv : VotesAt w w.heap.size V m vs) (hm : m ≤ 60) :
    Calls Try.prog 152 #[.slice V m d, .func (.func 153) #[] #[]] w (RetSl w (Lib.compact (sortI (vs.map (·.1))))) := by
  obtain ⟨i0, hi, hz0, hz1, hz2⟩ := put_parts put_info3
  have hlv := Lib.hid hv.1
  have hvv := Lib.hid hv
  clear hv
  go_enter Try.func152, Try.ntmps152
  go_wp2_with fail
  go_loopw [5, 7, 10] (fun o _ i wr => ∃ k : Nat, k ≤ m ∧ i = .int .i64 k ∧ Hid (wr.ownsRow w.heap.size 3 1 o ((vs.take k).map (·.1)).length (((vs.take k).map (·.1)).map (Value.int .i64))) ∧ Hid (Below w.heap.size w wr)) (fun _ _ i _ => m - (intOf i).toNat)
  case atStart => exact ⟨0, Nat.zero_le _, rfl, Lib.hid (World.ownsRow_nil _ _ _ _), Lib.hid (Below.refl _ _)⟩
  case round =>
    obtain ⟨k, hk, rfl, ho, hbel⟩ := hrel
    have hws : w.heap.size ≤ wr.heap.size := hbel.out.size
    have hkl : ((vs.take k).map (·.1)).length ≤ 60 := by rw [List.length_map, List.length_take]; omega
    by_cases hlt : k < m
    · obtain ⟨vb, vo, rfl, hvb, e0', e1', e2'⟩ := hvv.out.2 k hlt
      have e0 := (hbel.out.cell (p := ⟨vb, vo + k * 3, none⟩) hvb).trans e0'
      have e1 := (hbel.out.cell (p := ⟨vb, vo + k * 3 + 1, none⟩) hvb).trans e1'
      have e2 := (hbel.out.cell (p := ⟨vb, vo + k * 3 + 2, none⟩) hvb).trans e2'
      have hstep := Lib.hid (keys_step (vs := vs) (k := k) (by rw [hlv.out]; exact hlt))
      obtain ⟨v, hvk⟩ : ∃ v, getV vs k = v := ⟨_, rfl⟩
      rw [hvk] at e0 e1 e2 hstep
      obtain ⟨x, y, z⟩ := v
      simp only at e0 e1 e2
      have hb1 := bx_below wr (.cells #[.int .i64 x, .int .i64 y, .int .i64 z] 93)
      have r3 := three_cells wr x y z 93
      obtain ⟨W, hW⟩ : ∃ W, wr.alloc (.cells #[.int .i64 x, .int .i64 y, .int .i64 z] 93) = W := ⟨_, rfl⟩
      rw [hW] at hb1 r3
      have f0 := r3.cell (i := 0) (by omega)
      have f1 := r3.cell (i := 1) (by omega)
      have f2 := r3.cell (i := 2) (by omega)
      simp only [if_true, if_false, show (1 : Nat) ≠ 0 by decide, show (2 : Nat) ≠ 0 by decide, show (2 : Nat) ≠ 1 by decide] at f0 f1 f2
      have hW' := Lib.hid hW
      have u1 := Lib.hid (hbel.out.trans (hb1.mono hws))
      have o1 := Lib.hid (owns_belowV ho.out hb1)
      have hws1 : w.heap.size ≤ W.heap.size := Nat.le_trans hws hb1.size
      have hclo := Lib.hid (who2_any x y z W)
      clear hW hb1 r3 e0' e1' e2' hvk
      obtain ⟨K, hK⟩ : ∃ K, (vs.take k).map (·.1) = K := ⟨_, rfl⟩
      rw [hK] at o1 hkl hstep
      clear ho hK
      go_wp2_with fail
      rw [hW'.out]
      go_wp2_with fail
      refine hclo.out.mono ?_
      rintro e w3 ⟨rfl, b3⟩
      have u3 := Lib.hid (u1.out.trans (b3.mono hws1))
      have o3 := Lib.hid (owns_belowV o1.out b3)
      have hws3 : w.heap.size ≤ w3.heap.size := Nat.le_trans hws1 b3.size
      clear b3 hclo f0 f1 f2
      go_wp2_with (at_builtin; refine appendV _ rfl _ _ 23 rfl w.heap.size i0 Try.underlying23 hi hz0 hz1 hz2 _ K rfl (o3.out.alloc _) w3.heap.size 0 1 x rfl ((bx_row w3 (.int .i64 x) 3).cell (i := 0) (by omega)) (by omega) (by simp; omega) ?_; intro g c9 w9 r1 r2 r3; have z1 := Lib.hid r1; have z2 := Lib.hid r2; clear r1 r2 r3)
      have u9 := Lib.hid ((u3.out.alloc hws3 (.cells #[.int .i64 x] 3)).grown z2.out (by simp; omega) (fun j e => ((o3.out.alloc (.cells #[.int .i64 x] 3)).lt j e).1))
      go_roundw
      case rel => exact ⟨k + 1, by omega, by go_num, Lib.hid (by rw [hstep.out]; simpa using z1.out), u9⟩
      case measure => simp [intOf]; omega
    · have hke := Lib.hid (show (vs.take k).map (·.1) = vs.map (·.1) by rw [List.take_of_length_le (by rw [hlv.out]; omega)])
      rw [hke.out] at ho hkl
      obtain ⟨K, hK⟩ : ∃ K, vs.map (·.1) = K := ⟨_, rfl⟩
      rw [hK] at ho hkl
      have hK' := Lib.hid hK
      clear hke hK
      have ho' := ho.out
      clear ho
      rcases ho'.2 with ⟨rfl, h0⟩ | ⟨g, cap, cur, rfl, hbase, hgg, c1, c2, c3, c4⟩
      · have hs0 : K = [] := List.length_eq_zero_iff.1 h0
        subst hs0
        clear ho' h0
        go_wp2_with fail
        refine (sortNil 0 wr).mono ?_
        rintro e w3 ⟨rfl, rfl⟩
        go_wp2_with (go_at_call 171; refine (Try.slices_Compact_int_empty none 0 _).mono ?_; rintro e w' ⟨rfl, rfl⟩)
        go_ret
        exact ⟨none, 0, 0, rfl, by rw [hK'.out, show sortI [] = [] from by simp [sortI], compact_nil]; exact own_nil _ _, hbel.out⟩
      · have hgl : g < wr.heap.size := (Array.getElem?_eq_some_iff.1 hgg).1
        have hsort := Lib.hid (Try.slices_Sort_int g 0 cap K wr (holds_of_blockI hgg (by simpa using c4)) hgl (by omega))
        have hp := Lib.hid hgg; have hq1 := Lib.hid c1; have hq2 := Lib.hid c2; have hq3 := Lib.hid c3
        have hbs := Lib.hid hbase
        clear hgg c1 c2 c3 c4 ho' hbase
        go_wp2_with fail
        refine hsort.out.mono ?_
        rintro e w3 ⟨rfl, q, os, hw3⟩
        have o3 := show w3.ownsRow w.heap.size 3 1 (.slice (some ⟨g, 0, none⟩) K.length cap) K.length ((sortI K).map (Value.int .i64)) by rw [hw3]; exact ownsRow_sortedI (sortI_len K) hbs.out hp.out hq1.out hq2.out (by simpa using hq3.out)
        have u3 := Lib.hid (hbel.out.grown (show wr.grownBy w3 (some g) by rw [hw3]; exact grownBy_sortedI _) hws (fun j e => by injection e with e; have := hbs.out; omega))
        obtain ⟨S, hS⟩ : ∃ S, sortI K = S := ⟨_, rfl⟩
        have hSl : S.length = K.length := by rw [← hS, sortI_len]
        rw [hS] at o3
        have hS' := Lib.hid hS
        obtain ⟨L, hL⟩ : ∃ L, K.length = L := ⟨_, rfl⟩
        rw [hL] at hSl hkl
        rw [hL, ← hSl] at o3
        have hown := Lib.hid o3
        obtain ⟨g', cap', e, hbg, hgl3, hnc, hcm, hlen, hH⟩ := Lib.holds_of_ownsRow o3 (by simp)
        cases e
        have hC := Lib.hid (Try.slices_Compact_int g 0 cap S w3 hH (by omega) (by omega))
        rw [hSl] at hC
        have hSl' := Lib.hid hSl; have hL' := Lib.hid hL
        clear hw3 hsort o3 hH hS hlen
        rw [hL]
        clear hL
        go_wp2_with (go_at_call 171; refine hC.out.mono ?_; rintro e w' ⟨rfl, nn, rfl⟩)
        go_ret
        have hcl := Lib.compact_length_le S
        have hr := Lib.ownsRow_putRow (q := nn) (k := (Lib.compact S).length) (ys := Lib.compact S ++ List.replicate (S.length - (Lib.compact S).length) 0) hown.out (by simp; omega) (by omega)
        rw [List.take_left] at hr
        obtain ⟨A1, c1, e1, o1⟩ := OwnAt.of_owns hr
        have hA1 : A1 = some ⟨g, 0, none⟩ ∧ c1 = cap := by injection e1 with e1 _ e3; exact ⟨e1.symm, e3.symm⟩
        rw [hA1.1] at o1
        exact ⟨some ⟨g, 0, none⟩, (Lib.compact S).length, cap, rfl, by rw [hK'.out, hS'.out]; first | exact o1 | (rw [← hSl'.out]; exact o1), by first | exact Lib.below_putRow u3.out hbg | (rw [← hSl'.out]; exact Lib.below_putRow u3.out hbg)⟩

set_option maxRecDepth 100000 in
set_option maxHeartbeats 800000 in
theorem whoLinks_any (V : Option Addr) (m d : Nat) (vs : List Vt) (f t : Int) (w : World) (hv : VotesAt w w.heap.size V m vs) (hm : m ≤ 40) :
    Calls Try.prog 91 #[.slice V m d, .int .i64 f, .int .i64 t] w (RetSl w (whoL vs f t)) := by
  have hmf : ∀ (fn : Fn) (first cap : Array Value) (w : World), (Instr.makeFunc fn first cap).run Try.prog w = .ok (.func fn first cap) w := fun _ _ _ _ => rfl
  obtain ⟨r1, r2, bW, sW⟩ := bx2_rows w (.int .i64 f) (.int .i64 t) 3 3
  have hlv := Lib.hid hv.1
  have hwe := Lib.hid (whoL_eq vs f t)
  have hvv := Lib.hid (hv.up bW)
  have hfl := Lib.hid (filteredL_any V m d vs f t w.heap.size (w.heap.size + 1) _ (hv.up bW) (by omega) (r1.cell (i := 0) (by omega)) (r2.cell (i := 0) (by omega)) r1.lt r2.lt)
  have u0 := Lib.hid bW
  have hflen := Lib.hid (Nat.le_trans (List.length_filter_le (whoP f t) vs) (Nat.le_of_eq hv.1))
  clear r1 r2 bW sW hv
  go_enter Try.func91, Try.ntmps91
  go_wp2_with fail
  refine hfl.out.mono ?_
  rintro e w1 ⟨A1, n1, c1, rfl, o1, b1⟩
  have hn1 : n1 ≤ 60 := by have := o1.len; have := hflen.out; omega
  have u1 := Lib.hid (u0.out.trans (b1.mono u0.out.size))
  have o1' := Lib.hid o1.votes
  clear o1 b1 hfl
  go_wp2_with fail
  refine (keysOf_any A1 n1 c1 (vs.filter (whoP f t)) w1 o1'.out hn1).mono ?_
  rintro e w2 ⟨A2, n2, c2, rfl, o2, b2⟩
  have o2' := Lib.hid (o2.fewer u1.out.size)
  have u2 := Lib.hid (u1.out.trans (b2.mono u1.out.size))
  clear o2 b2
  go_wp2_with fail
  go_ret
  exact ⟨A2, n2, c2, rfl, by rw [← hwe.out]; exact o2'.out, u2.out⟩

set_option maxRecDepth 100000 in
set_option maxHeartbeats 800000 in
theorem isLinked_any (A' : Option Addr) (n' c' : Nat) (ss : List Int) (V : Option Addr) (m d : Nat) (vs : List Vt) (f t : Int) (w : World) (ts : List Blk) (hok : linksOk ts ss vs = true) (h' : IntsAt w w.heap.size A' n' ss) (hv : VotesAt w w.heap.size V m vs) :
    Calls Try.prog 100 #[.slice A' n' c', .slice V m d, .int .i64 f, .int .i64 t] w (UpPost w (.bool (grB ss vs f t))) := by
  have hl' := h'.1
  have hm40 : m ≤ 40 := by rw [← hv.1]; exact (linksOk_iff.1 hok).1.2
  have hn' : n' ≤ 1048576 := by have := (goodB_len (linksOk_iff.1 hok).1.1.2).2; omega
  have hgr := Lib.hid (grB_of hok f t)
  have hof := Lib.hid (whoL_of hok f t)
  have hwl := Lib.hid (whoL_len (ls := vs) (by rw [hv.1]; exact hm40) f t)
  have hh' := Lib.hid h'
  have hw := Lib.hid (whoLinks_any V m d vs f t w hv hm40)
  clear h' hv hl' hok
  go_enter Try.func100, Try.ntmps100
  go_wp2_with (first
    | (go_at_call 91; refine hw.out.mono ?_; rintro e w2 ⟨A2, n2, c2, rfl, o2, b2⟩; have hn2 : n2 ≤ 1048576 := by { have := o2.len; have := hwl.out; omega }; have o2' := Lib.hid o2.ints; have u2 := Lib.hid b2; clear o2 b2)
    | (go_at_call 93; refine (implIsGreat_any _ _ _ _ _ _ _ ss (whoL vs f t) _ (hh'.out.up' u2.out) o2'.out hn2 hn').mono ?_; rintro e w3 ⟨rfl, rfl⟩; rw [hgr.out, hof.out]))
  go_ret
  exact ⟨rfl, u2.out⟩

set_option maxRecDepth 100000 in
set_option maxHeartbeats 800000 in
theorem implWhoLinks_any (A : Option Addr) (n c : Nat) (ts : List Blk) (A' : Option Addr) (n' c' : Nat) (ss : List Int) (V : Option Addr) (m d : Nat) (vs : List Vt) (f t : Int) (w : World) (h : BlksAt w w.heap.size A n ts) (h' : IntsAt w w.heap.size A' n' ss) (hv : VotesAt w w.heap.size V m vs) (hn : n ≤ 1048576) (hn' : n' ≤ 1048576) (hm : m ≤ 1048576) :
    Calls Try.prog 25 #[.slice A n c, .slice A' n' c', .slice V m d, .int .i64 f, .int .i64 t] w (RetOwn w (askOK ts ss vs f t) (whoR ts ss vs f t)) := by
  have hlv := Lib.hid hv.1
  have hh := Lib.hid h; have hvv := Lib.hid hv
  have hgl := Lib.hid (implGoodLinks_any A n c ts A' n' c' ss V m d vs w h h' hv hn hn' hm)
  clear h h' hv
  cases g : linksOk ts ss vs
  · have hq := Lib.hid (show askOK ts ss vs f t = false by unfold askOK; rw [g]; rfl)
    have hr := Lib.hid (show whoR ts ss vs f t = [] by unfold whoR; rw [hq.out]; rfl)
    rw [g] at hgl
    rw [hq.out, hr.out]
    go_enter Try.func25, Try.ntmps25
    go_wp2_with (go_at_call 20; refine hgl.out.mono ?_; rintro e w1 ⟨rfl, b1⟩; have u1 := Lib.hid b1; clear b1)
    go_ret2
    exact ⟨none, 0, 0, rfl, own_nil _ _, u1.out⟩
  · have hm40 : m ≤ 40 := by rw [← hlv.out]; exact (linksOk_iff.1 g).1.2
    rw [g] at hgl
    cases i1 : okK ts f
    · have hq := Lib.hid (show askOK ts ss vs f t = false by unfold askOK; rw [g, i1]; rfl)
      have hr := Lib.hid (show whoR ts ss vs f t = [] by unfold whoR; rw [hq.out]; rfl)
      rw [hq.out, hr.out]
      go_enter Try.func25, Try.ntmps25
      go_wp2_with (first
        | (go_at_call 20; refine hgl.out.mono ?_; rintro e w1 ⟨rfl, b1⟩; have u1 := Lib.hid b1; clear b1)
        | (go_at_call 90; refine (isBlock_ok _ _ _ ts f _ (hh.out.up u1.out) hn).mono ?_; rintro e w2 ⟨rfl, b2⟩; rw [i1]; have u2 := Lib.hid (u1.out.trans (b2.mono u1.out.size)); clear b2))
      go_ret2
      exact ⟨none, 0, 0, rfl, own_nil _ _, u2.out⟩
    · cases i2 : okK ts t
      · have hq := Lib.hid (show askOK ts ss vs f t = false by unfold askOK; rw [g, i1, i2]; rfl)
        have hr := Lib.hid (show whoR ts ss vs f t = [] by unfold whoR; rw [hq.out]; rfl)
        rw [hq.out, hr.out]
        have tk0 : True := trivial
        go_enter Try.func25, Try.ntmps25
        go_wp2_with (first
          | (clear tk0; go_at_call 20; refine hgl.out.mono ?_; rintro e w1 ⟨rfl, b1⟩; have u1 := Lib.hid b1; clear b1; have tk1 : True := trivial)
          | (clear tk1; go_at_call 90; refine (isBlock_ok _ _ _ ts f _ (hh.out.up u1.out) hn).mono ?_; rintro e w2 ⟨rfl, b2⟩; rw [i1]; have u2 := Lib.hid (u1.out.trans (b2.mono u1.out.size)); clear b2; have tk2 : True := trivial)
          | (clear tk2; go_at_call 90; refine (isBlock_ok _ _ _ ts t _ (hh.out.up u2.out) hn).mono ?_; rintro e w3 ⟨rfl, b3⟩; rw [i2]; have u3 := Lib.hid (u2.out.trans (b3.mono u2.out.size)); clear b3))
        go_ret2
        exact ⟨none, 0, 0, rfl, own_nil _ _, u3.out⟩
      · have hq := Lib.hid (show askOK ts ss vs f t = true by unfold askOK; rw [g, i1, i2]; rfl)
        have hr := Lib.hid (show whoR ts ss vs f t = whoL vs f t by unfold whoR; rw [hq.out]; rfl)
        rw [hq.out, hr.out]
        have tk0 : True := trivial
        go_enter Try.func25, Try.ntmps25
        go_wp2_with (first
          | (clear tk0; go_at_call 20; refine hgl.out.mono ?_; rintro e w1 ⟨rfl, b1⟩; have u1 := Lib.hid b1; clear b1; have tk1 : True := trivial)
          | (clear tk1; go_at_call 90; refine (isBlock_ok _ _ _ ts f _ (hh.out.up u1.out) hn).mono ?_; rintro e w2 ⟨rfl, b2⟩; rw [i1]; have u2 := Lib.hid (u1.out.trans (b2.mono u1.out.size)); clear b2; have tk2 : True := trivial)
          | (clear tk2; go_at_call 90; refine (isBlock_ok _ _ _ ts t _ (hh.out.up u2.out) hn).mono ?_; rintro e w3 ⟨rfl, b3⟩; rw [i2]; have u3 := Lib.hid (u2.out.trans (b3.mono u2.out.size)); clear b3; have tk3 : True := trivial)
          | (clear tk3; go_at_call 91; refine (whoLinks_any V m d vs f t _ (hvv.out.up u3.out) hm40).mono ?_; rintro e w4 ⟨A2, n2, c2, rfl, o2, b2⟩; have o2' := Lib.hid (o2.fewer u3.out.size); have u4 := Lib.hid (u3.out.trans (b2.mono u3.out.size)); clear o2 b2))
        go_ret2
        exact ⟨A2, n2, c2, rfl, o2'.out, u4.out⟩

set_option maxRecDepth 100000 in
set_option maxHeartbeats 800000 in
theorem implIsLinked_any (A : Option Addr) (n c : Nat) (ts : List Blk) (A' : Option Addr) (n' c' : Nat) (ss : List Int) (V : Option Addr) (m d : Nat) (vs : List Vt) (f t : Int) (w : World) (h : BlksAt w w.heap.size A n ts) (h' : IntsAt w w.heap.size A' n' ss) (hv : VotesAt w w.heap.size V m vs) (hn : n ≤ 1048576) (hn' : n' ≤ 1048576) (hm : m ≤ 1048576) :
    Calls Try.prog 31 #[.slice A n c, .slice A' n' c', .slice V m d, .int .i64 f, .int .i64 t] w (UpPost w (.tuple #[.bool (isLR ts ss vs f t), .bool (askOK ts ss vs f t)])) := by
  have hh' := Lib.hid h'
  have hrl := Lib.hid (whoR_len ts ss vs f t)
  have hw := Lib.hid (implWhoLinks_any A n c ts A' n' c' ss V m d vs f t w h h' hv hn hn' hm)
  clear h h' hv
  cases g : askOK ts ss vs f t
  · have hr := Lib.hid (show isLR ts ss vs f t = false by unfold isLR; rw [g]; rfl)
    rw [g] at hw
    go_enter Try.func31, Try.ntmps31
    go_wp2_with (go_at_call 25; refine hw.out.mono ?_; rintro e w2 ⟨A2, n2, c2, rfl, o2, b2⟩; have u2 := Lib.hid b2; clear o2 b2)
    go_ret2
    exact ⟨ret_bools hr.out.symm rfl, u2.out⟩
  · have hok : linksOk ts ss vs = true := by unfold askOK at g; rw [Bool.and_eq_true] at g; exact g.1
    have hr := Lib.hid (show isLR ts ss vs f t = grB ss vs f t by unfold isLR; rw [g]; rfl)
    have hwr := Lib.hid (show whoR ts ss vs f t = whoL vs f t by unfold whoR; rw [g]; rfl)
    have hgr := Lib.hid (grB_of hok f t)
    have hof := Lib.hid (whoL_of hok f t)
    rw [g] at hw
    clear hok
    go_enter Try.func31, Try.ntmps31
    go_wp2_with (first
      | (go_at_call 25; refine hw.out.mono ?_; rintro e w2 ⟨A2, n2, c2, rfl, o2, b2⟩; have hn2 : n2 ≤ 1048576 := by { have := o2.len; have := hrl.out; omega }; have o2' := Lib.hid o2.ints; have u2 := Lib.hid b2; rw [hwr.out] at o2'; clear o2 b2)
      | (go_at_call 93; refine (implIsGreat_any _ _ _ _ _ _ _ ss (whoL vs f t) _ (hh'.out.up' u2.out) o2'.out hn2 hn').mono ?_; rintro e w3 ⟨rfl, rfl⟩; rw [hgr.out, hof.out]))
    go_ret2
    exact ⟨ret_bools hr.out.symm rfl, u2.out⟩
end Go.Proofs.Ythiegfbdmmpabaa
