/- What is proved here: what the program's FinalIn returns. No conditions but lengths. -/
import Derived.Test.YthiegfbdmmpabaaFinalOne
import Derived.Test.YthiegfbdmmpabaaFinalSpec
namespace Go.Proofs.Ythiegfbdmmpabaa
open Go.RowKit

set_option maxRecDepth 100000 in
set_option maxHeartbeats 1600000 in
theorem filteredI_any (AJ : Option Addr) (L cJ : Nat) (J : List Int) (A : Option Addr) (n c : Nat) (ts : List Blk) (A' : Option Addr) (n' c' : Nat) (ss : List Int) (V : Option Addr) (m d : Nat) (vs : List Vt) (g1 g2 g3 : Nat) (w : World) (hok : linksOk ts ss vs = true) (hJ : IntsAt w w.heap.size AJ L J) (hL : L ≤ 1000) (hnat : ∀ x ∈ J, ∃ i : Nat, x = i ∧ i < ts.length) (h : BlksAt w w.heap.size A n ts) (h' : IntsAt w w.heap.size A' n' ss) (hv : VotesAt w w.heap.size V m vs)
    (c1 : Boxed w g1 28 (.slice A n c)) (c2 : Boxed w g2 23 (.slice A' n' c')) (c3 : Boxed w g3 31 (.slice V m d)) :
    Calls Try.prog 97 #[.slice AJ L cJ, .func (.func 98) #[] #[.pointer (some ⟨g1, 0, none⟩), .pointer (some ⟨g2, 0, none⟩), .pointer (some ⟨g3, 0, none⟩)]] w (RetSlC w (J.filter (finlP ts ss vs))) := by
  obtain ⟨i0, hi, hz0, hz1, hz2⟩ := put_parts put_info3
  have hL' := Lib.hid hJ.1
  have iJ := Lib.hid hJ; have hnat' := Lib.hid hnat
  have hh := Lib.hid h; have hh' := Lib.hid h'; have hvv := Lib.hid hv; have hok' := Lib.hid hok
  have k1 := Lib.hid c1; have k2 := Lib.hid c2; have k3 := Lib.hid c3
  clear hJ hnat h h' hv hok c1 c2 c3
  go_enter Try.func97, Try.ntmps97
  go_wp2_with fail
  go_loopw [5, 7, 10] (fun o _ i wr => ∃ k : Nat, k ≤ L ∧ i = .int .i64 k ∧ Hid (wr.ownsRow w.heap.size 3 1 o ((J.take k).filter (finlP ts ss vs)).length (((J.take k).filter (finlP ts ss vs)).map (Value.int .i64))) ∧ Hid (Below w.heap.size w wr)) (fun _ _ i _ => L - (intOf i).toNat)
  case atStart => exact ⟨0, Nat.zero_le _, rfl, Lib.hid (World.ownsRow_nil _ _ _ _), Lib.hid (Below.refl _ _)⟩
  case round =>
    obtain ⟨k, hk, rfl, ho, hbel⟩ := hrel
    obtain ⟨K, hK⟩ : ∃ K, (J.take k).filter (finlP ts ss vs) = K := ⟨_, rfl⟩
    have hKl := filterI_len (l := J) (k := k) (finlP ts ss vs)
    rw [hK] at ho hKl
    by_cases hlt : k < L
    · have hst := Lib.hid (filterI_step (l := J) (k := k) (finlP ts ss vs) (by rw [hL'.out]; exact hlt))
      rw [hK] at hst
      obtain ⟨lb, lo, rfl, hlb, hc0⟩ := iJ.out.2 k hlt
      have hc := (hbel.out.cell (p := ⟨lb, lo + k, none⟩) hlb).trans hc0
      obtain ⟨b, hx⟩ : ∃ b : Nat, J[k]?.getD 0 = b := by
        obtain ⟨i, e, _⟩ := hnat'.out (J[k]?.getD 0) (by rw [List.getElem?_eq_getElem (by rw [hL'.out]; exact hlt), Option.getD_some]; exact List.getElem_mem _)
        exact ⟨i, e⟩
      rw [hx] at hc hst
      have hcl := Lib.hid (fin1_any A n c ts A' n' c' ss V m d vs b g1 g2 g3 wr hok'.out (hh.out.up hbel.out) (hh'.out.up' hbel.out) (hvv.out.up hbel.out) ((hbel.out.block _ k1.out.lt).trans k1.out) ((hbel.out.block _ k2.out.lt).trans k2.out) ((hbel.out.block _ k3.out.lt).trans k3.out))
      clear hc0 hx hK
      have hK1 : K.length ≤ 1048576 := by have := hL'.out; omega
      cases gg : finlP ts ss vs b
      · rw [gg] at hcl
        have hnx := Lib.hid (show (J.take (k + 1)).filter (finlP ts ss vs) = K by rw [hst.out, gg]; rfl)
        clear gg
        go_wp2_with fail
        refine hcl.out.mono ?_
        rintro e w4 ⟨rfl, b4⟩
        have u4 := Lib.hid (hbel.out.trans (b4.mono hbel.out.size))
        have o4 := Lib.hid (owns_belowL ho.out b4)
        clear b4 hcl
        go_wp2_with fail
        go_roundw
        case rel => exact ⟨k + 1, by omega, by go_num, Lib.hid (by rw [hnx.out]; exact o4.out), u4⟩
        case measure => simp [intOf]; omega
      · rw [gg] at hcl
        have hnx := Lib.hid (show (J.take (k + 1)).filter (finlP ts ss vs) = K ++ [(b : Int)] by rw [hst.out, gg, if_pos rfl])
        clear gg
        go_wp2_with fail
        refine hcl.out.mono ?_
        rintro e w4 ⟨rfl, b4⟩
        have u4 := Lib.hid (hbel.out.trans (b4.mono hbel.out.size))
        have o4 := Lib.hid (owns_belowL ho.out b4)
        have hws4 : w.heap.size ≤ w4.heap.size := u4.out.size
        clear b4 hcl
        go_wp2_with (at_builtin; refine appendV _ rfl _ _ 23 rfl w.heap.size i0 Try.underlying23 hi hz0 hz1 hz2 _ K rfl (o4.out.alloc _) w4.heap.size 0 1 (b : Int) rfl ((bx_row w4 (.int .i64 (b : Int)) 3).cell (i := 0) (by omega)) hK1 (by simp; omega) ?_; intro g9 c9 w9 r1 r2 r3; have z1 := Lib.hid r1; have z2 := Lib.hid r2; clear r1 r2 r3)
        have u9 := Lib.hid ((u4.out.alloc hws4 (.cells #[.int .i64 (b : Int)] 3)).grown z2.out (by simp; omega) (fun j e => ((o4.out.alloc (.cells #[.int .i64 (b : Int)] 3)).lt j e).1))
        go_roundw
        case rel => exact ⟨k + 1, by omega, by go_num, Lib.hid (by rw [hnx.out]; simpa using z1.out), u9⟩
        case measure => simp [intOf]; omega
    · have hke := Lib.hid (show K = J.filter (finlP ts ss vs) by rw [← hK, List.take_of_length_le (by rw [hL'.out]; omega)])
      obtain ⟨A1, c1, e1, own1⟩ := OwnAt.of_owns ho.out
      have own1' := Lib.hid own1
      subst e1
      clear own1 hK
      go_wp2_with fail
      go_ret
      exact ⟨A1, _, c1, rfl, by rw [← hke.out]; exact own1'.out, owns_capF ho.out _ _ _ rfl, hbel.out⟩

def RetOwnC (w : World) (b : Bool) (xs : List Int) (e : Ending) (w' : World) : Prop :=
  ∃ A n c, e = .returned (.tuple #[.slice A n c, .bool b]) ∧ OwnAt w' w.heap.size A n xs ∧ (n ≤ c ∧ c ≤ maxLen) ∧ Below w.heap.size w w'
theorem boxed_of {w : World} {g : Nat} {t : TypeId} {v : Value} (h : w.rowIs g t 1 (fun _ => v)) : Boxed w g t v := pl_one h

set_option maxRecDepth 100000 in
set_option maxHeartbeats 800000 in
theorem implFinalC_any (A : Option Addr) (n c : Nat) (ts : List Blk) (A' : Option Addr) (n' c' : Nat) (ss : List Int) (V : Option Addr) (m d : Nat) (vs : List Vt) (w : World) (h : BlksAt w w.heap.size A n ts) (h' : IntsAt w w.heap.size A' n' ss) (hv : VotesAt w w.heap.size V m vs) (hn : n ≤ 1048576) (hn' : n' ≤ 1048576) (hm : m ≤ 1048576) :
    Calls Try.prog 35 #[.slice A n c, .slice A' n' c', .slice V m d] w (RetOwnC w (linksOk ts ss vs) (finlR ts ss vs)) := by
  have hmf : ∀ (fn : Fn) (first cap : Array Value) (w : World), (Instr.makeFunc fn first cap).run Try.prog w = .ok (.func fn first cap) w := fun _ _ _ _ => rfl
  obtain ⟨r1, r2, r3, bW, sW⟩ := bx3_rows w (.slice A n c) (.slice A' n' c') (.slice V m d) 28 23 31
  obtain ⟨W0, hW0⟩ : ∃ W, ((w.alloc (.cells #[.slice A n c] 28)).alloc (.cells #[.slice A' n' c'] 23)).alloc (.cells #[.slice V m d] 31) = W := ⟨_, rfl⟩
  rw [hW0] at r1 r2 r3 bW sW
  have hju := Lib.hid (implJust_any A n c ts A' n' c' ss V m d vs W0 (h.up bW) (h'.up' bW) (hv.up bW) hn hn' hm)
  have hh := Lib.hid (h.up bW); have hh' := Lib.hid (h'.up' bW); have hvv := Lib.hid (hv.up bW)
  have hW0' := Lib.hid hW0
  have e1 := r1.cell (i := 0) (by omega); have e2 := r2.cell (i := 0) (by omega); have e3 := r3.cell (i := 0) (by omega)
  have q1 := Lib.hid r1; have q2 := Lib.hid r2; have q3 := Lib.hid r3; have u0 := Lib.hid bW
  clear h h' hv hW0 r1 r2 r3 bW sW
  cases g : linksOk ts ss vs
  · have hr := Lib.hid (show finlR ts ss vs = [] by unfold finlR; rw [g]; rfl)
    rw [g] at hju
    rw [hr.out]
    go_enter Try.func35, Try.ntmps35
    go_wp2_with fail
    rw [hW0'.out]
    go_wp2_with (go_at_call 33; refine hju.out.mono ?_; rintro e w1 ⟨AJ, L, cJ, rfl, oJ, b1⟩; have u1 := Lib.hid (u0.out.trans (b1.mono u0.out.size)); clear b1 oJ)
    go_ret2
    exact ⟨none, 0, 0, rfl, own_nil _ _, ⟨Nat.le_refl _, Nat.zero_le _⟩, u1.out⟩
  · have hr := Lib.hid (show finlR ts ss vs = (justL ts ss vs).filter (finlP ts ss vs) by unfold finlR; rw [g, if_pos rfl]; rfl)
    have hjr := Lib.hid (show justR ts ss vs = justL ts ss vs by unfold justR; rw [g, if_pos rfl])
    have hok := Lib.hid g
    have hjl := Lib.hid (justL_len (ss := ss) (ls := vs) (linksOk_iff.1 g).1.1.1)
    have hji := Lib.hid (justL_in (ss := ss) (ls := vs) (linksOk_iff.1 g).1.1.1)
    rw [g] at hju
    rw [hr.out]
    clear g
    go_enter Try.func35, Try.ntmps35
    go_wp2_with fail
    rw [hW0'.out]
    go_wp2_with fail
    refine hju.out.mono ?_
    rintro e w1 ⟨AJ, L, cJ, rfl, oJ, b1⟩
    rw [hjr.out] at oJ
    have u1 := Lib.hid (u0.out.trans (b1.mono u0.out.size))
    have hL : L ≤ 1000 := by have := oJ.len; have := hjl.out.2; omega
    have iJ := Lib.hid oJ.ints
    have hf := Lib.hid (filteredI_any AJ L cJ (justL ts ss vs) A n c ts A' n' c' ss V m d vs w.heap.size (w.heap.size + 1) (w.heap.size + 2) w1 hok.out iJ.out hL hji.out (hh.out.up b1) (hh'.out.up' b1) (hvv.out.up b1) (boxed_of (rowIs_below q1.out b1 q1.out.lt)) (boxed_of (rowIs_below q2.out b1 q2.out.lt)) (boxed_of (rowIs_below q3.out b1 q3.out.lt)))
    clear b1 oJ hju e1 e2 e3
    go_wp2_with fail
    refine hf.out.mono ?_
    rintro e w2 ⟨A2, n2, c2, rfl, o2, hc2, b2⟩
    have o2' := Lib.hid (o2.fewer u1.out.size)
    have u2 := Lib.hid (u1.out.trans (b2.mono u1.out.size))
    clear o2 b2 hf
    go_wp2_with fail
    go_ret2
    exact ⟨A2, n2, c2, rfl, o2'.out, hc2, u2.out⟩
theorem implFinalIn_any (A : Option Addr) (n c : Nat) (ts : List Blk) (A' : Option Addr) (n' c' : Nat) (ss : List Int) (V : Option Addr) (m d : Nat) (vs : List Vt) (w : World) (h : BlksAt w w.heap.size A n ts) (h' : IntsAt w w.heap.size A' n' ss) (hv : VotesAt w w.heap.size V m vs) (hn : n ≤ 1048576) (hn' : n' ≤ 1048576) (hm : m ≤ 1048576) :
    Calls Try.prog 35 #[.slice A n c, .slice A' n' c', .slice V m d] w (RetOwn w (linksOk ts ss vs) (finlR ts ss vs)) :=
  (implFinalC_any A n c ts A' n' c' ss V m d vs w h h' hv hn hn' hm).mono fun _ _ ⟨A2, n2, c2, h1, h2, _, h3⟩ => ⟨A2, n2, c2, h1, h2, h3⟩
end Go.Proofs.Ythiegfbdmmpabaa
