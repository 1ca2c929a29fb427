/- What is proved here: what the model's JustifiedIn, FinalIn, HighestIn and ConflictIn return. No conditions but lengths. -/
import Derived.Test.YthiegfbdmmpabaaLinkWho
import Derived.Test.YthiegfbdmmpabaaLiarsImpl
import Derived.Test.YthiegfbdmmpabaaWays
namespace Go.Proofs.Ythiegfbdmmpabaa
open Go.RowKit

theorem justS_get {ss : List Int} {ls : List Vt} {k j : Nat} (hj : j < (justS ss ls k).length) : ∃ i : Nat, (justS ss ls k)[j]?.getD 0 = i ∧ i ≤ k := by
  rw [List.getElem?_eq_getElem hj, Option.getD_some]
  exact justS_in k _ (List.getElem_mem hj)
theorem any_at {l : List Int} {p : Int → Bool} {j : Nat} (hj : j < l.length) (h : p (l[j]?.getD 0) = true) : l.any p = true := by
  rw [List.getElem?_eq_getElem hj, Option.getD_some] at h
  exact List.any_eq_true.2 ⟨_, List.getElem_mem hj, h⟩
theorem any_none {l : List Int} {p : Int → Bool} (h : ∀ j, j < l.length → p (l[j]?.getD 0) = false) : l.any p = false := by
  rw [List.any_eq_false]
  intro x hx
  obtain ⟨j, hj, e⟩ := List.mem_iff_getElem.1 hx
  have := h j hj
  rw [List.getElem?_eq_getElem hj, Option.getD_some, e] at this
  rw [this]; decide
theorem own0 (w : World) : (w.alloc (.cells #[.int .i64 0] 3)).ownsRow w.heap.size 3 1 (.slice (some ⟨w.heap.size, 0, none⟩) 1 1) 1 [.int .i64 0] :=
  ⟨rfl, .inr ⟨w.heap.size, 1, #[.int .i64 0], rfl, Nat.le_refl _, Go.Deep.blk_alloc_new _ _, Nat.le_refl _, by unfold maxLen; decide, rfl, rfl⟩⟩

set_option maxRecDepth 100000 in
set_option maxHeartbeats 3200000 in
theorem l10Just_any (A : Option Addr) (n c : Nat) (ts : List Blk) (A' : Option Addr) (n' c' : Nat) (ss : List Int) (V : Option Addr) (m d : Nat) (vs : List Vt) (w : World) (hok : linksOk ts ss vs = true) (h : BlksAt w w.heap.size A n ts) (h' : IntsAt w w.heap.size A' n' ss) (hv : VotesAt w w.heap.size V m vs) :
    Calls Try.prog 94 #[.slice A n c, .slice A' n' c', .slice V m d] w (RetSl w (justL ts ss vs)) := by
  obtain ⟨i0, hi, hz0, hz1, hz2⟩ := put_parts put_info3
  have ht := (linksOk_iff.1 hok).1.1.1
  have hl := Lib.hid h.1
  have hpos : 0 < n := by rw [← h.1]; exact ht.pos
  have hfew : n ≤ 24 := by rw [← h.1]; exact ht.few
  have hok' := Lib.hid hok
  have hh' := Lib.hid h'; have hvv := Lib.hid hv
  have o0 := Lib.hid (own0 w)
  have u0 := Lib.hid (bx_below w (.cells #[.int .i64 0] 3))
  clear h h' hv ht hok
  go_enter Try.func94, Try.ntmps94
  go_wp2_with fail
  go_loopw [7, 8, 10, 20] (fun o i _ _ wr => ∃ k : Nat, 1 ≤ k ∧ k ≤ n ∧ i = .int .i64 k ∧ Hid (wr.ownsRow w.heap.size 3 1 o (justS ss vs (k - 1)).length ((justS ss vs (k - 1)).map (Value.int .i64))) ∧ Hid (Below w.heap.size w wr)) (fun _ i _ _ _ => n - (intOf i).toNat)
  case atStart => exact ⟨1, Nat.le_refl _, hpos, rfl, o0, u0⟩
  case round =>
    obtain ⟨k, hk1, hk, rfl, ho, hbel⟩ := hrel
    obtain ⟨K, hK⟩ : ∃ K, Hid (k = K + 1) := ⟨k - 1, Lib.hid (by omega)⟩
    rw [show k - 1 = K by have := hK.out; omega] at ho
    obtain ⟨J, hJ⟩ : ∃ J, justS ss vs K = J := ⟨_, rfl⟩
    have hJl := justS_len ss vs K
    have hKn : K < n := by have := hK.out; omega
    have hin := Lib.hid (fun (j : Nat) (hj : j < J.length) => (by rw [← hJ] at hj ⊢; exact justS_get hj : ∃ i : Nat, J[j]?.getD 0 = i ∧ i ≤ K))
    have hst := Lib.hid (show justS ss vs k = if J.any (fun f => grB ss vs f (k : Int)) = true then J ++ [(k : Int)] else J by rw [hK.out, ← hJ]; rfl)
    rw [hJ] at ho hJl
    have hJ' := Lib.hid hJ
    clear hJ
    by_cases hlt : k < n
    · obtain ⟨A1, cJ, e1, own1⟩ := OwnAt.of_owns ho.out
      obtain ⟨L, hL⟩ : ∃ L, J.length = L := ⟨_, rfl⟩
      rw [hL] at e1 own1 hJl hin ho
      have hL' := Lib.hid hL
      have own1' := Lib.hid own1
      subst e1
      clear own1 hL
      have hkI : (k : Int) < (n : Int) := by omega
      go_wp2_with fail
      go_loopw [7, 10, 20] (fun o _ i wq => ∃ j : Nat, j ≤ L ∧ i = .int .i64 j ∧ o = .slice A1 L cJ ∧ Hid (∀ q, q < j → grB ss vs (J[q]?.getD 0) (k : Int) = false) ∧ Hid (wq.ownsRow w.heap.size 3 1 (.slice A1 L cJ) L (J.map (Value.int .i64))) ∧ Hid (Below w.heap.size w wq)) (fun _ _ i _ => L - (intOf i).toNat)
      case atStart => exact ⟨0, Nat.zero_le _, rfl, rfl, Lib.hid (fun _ h => absurd h (Nat.not_lt_zero _)), ho, hbel⟩
      case round =>
        obtain ⟨j, hj, rfl, rfl, hno, hoq, hbq⟩ := hrel
        by_cases hjl : j < L
        · obtain ⟨A2, c2, e2, own2⟩ := OwnAt.of_owns hoq.out
          cases e2
          obtain ⟨lb, lo, rfl, _, hc⟩ := own2.ints.2 j hjl
          clear own2
          obtain ⟨x, hx⟩ : ∃ x, J[j]?.getD 0 = x := ⟨_, rfl⟩
          rw [hx] at hc
          have hx' := Lib.hid hx
          have his := Lib.hid (l10Is_any A' n' c' ss V m d vs x (k : Int) wr ts hok'.out (hh'.out.up' hbq.out) (hvv.out.up hbq.out))
          clear hx
          cases g : grB ss vs x (k : Int)
          · rw [g] at his
            have hnx := Lib.hid (show ∀ q, q < j + 1 → grB ss vs (J[q]?.getD 0) (k : Int) = false from fun q hq => by
              by_cases e : q = j
              · rw [e, hx'.out]; exact g
              · exact hno.out q (by omega))
            clear g
            go_wp2_with (go_at_call 92; refine his.out.mono ?_; rintro e w4 ⟨rfl, b4⟩; have u4 := Lib.hid (hbq.out.trans (b4.mono hbq.out.size)); have o4 := Lib.hid (owns_belowL hoq.out b4); clear b4)
            go_roundw
            case rel => exact ⟨j + 1, by omega, by go_num, rfl, hnx, o4, u4⟩
            case measure => simp [intOf]; omega
          · rw [g] at his
            have hnx := Lib.hid (show justS ss vs k = J ++ [(k : Int)] by rw [hst.out, if_pos (any_at (p := fun f => grB ss vs f (k : Int)) (by rw [hL'.out]; exact hjl) (by rw [hx'.out]; exact g))])
            clear g
            go_wp2_with (first
              | (go_at_call 92; refine his.out.mono ?_; rintro e w4 ⟨rfl, b4⟩; have u4 := Lib.hid (hbq.out.trans (b4.mono hbq.out.size)); have o4 := Lib.hid (owns_belowL hoq.out b4); rw [← hL'.out] at o4; have hws4 := u4.out.size; clear b4)
              | (at_builtin; refine appendV _ rfl _ _ 23 rfl w.heap.size i0 Try.underlying23 hi hz0 hz1 hz2 _ J (by rw [hL'.out]; rfl) (o4.out.alloc _) w4.heap.size 0 1 (k : Int) rfl ((bx_row w4 (.int .i64 (k : Int)) 3).cell (i := 0) (by omega)) (by rw [hL'.out]; omega) (by simp; omega) ?_; intro g c9 w9 r1 r2 r3; have z1 := Lib.hid r1; have z2 := Lib.hid r2; clear r1 r2 r3))
            have u9 := Lib.hid ((u4.out.alloc hws4 (.cells #[.int .i64 (k : Int)] 3)).grown z2.out (by simp; omega) (fun j e => ((o4.out.alloc (.cells #[.int .i64 (k : Int)] 3)).lt j e).1))
            go_roundw
            case rel => exact ⟨k + 1, by omega, by omega, by go_num, Lib.hid (by rw [Nat.add_sub_cancel, hnx.out]; simpa using z1.out), u9⟩
            case measure => simp [intOf]; omega
        · have hje : j = L := by omega
          have hnx := Lib.hid (show justS ss vs k = J by rw [hst.out, if_neg]; rw [any_none (p := fun f => grB ss vs f (k : Int)) (fun q hq => hno.out q (by rw [hje, ← hL'.out]; exact hq))]; decide)
          rw [← hL'.out] at hoq
          clear hje
          go_wp2_with fail
          go_roundw
          case rel => exact ⟨k + 1, by omega, by omega, by go_num, Lib.hid (by rw [Nat.add_sub_cancel, hnx.out]; first | exact hoq.out | (rw [← hL'.out]; exact hoq.out)), hbq⟩
          case measure => simp [intOf]; omega
    · have hke : k = n := by omega
      have hfin := Lib.hid (show justL ts ss vs = J by unfold justL; rw [hl.out, ← hke, hK.out, Nat.add_sub_cancel, hJ'.out])
      obtain ⟨A1, cJ, e1, own1⟩ := OwnAt.of_owns ho.out
      have own1' := Lib.hid own1
      subst e1
      clear own1 hke
      go_wp2_with fail
      go_ret
      exact ⟨A1, _, cJ, rfl, by rw [hfin.out]; exact own1'.out, hbel.out⟩

set_option maxRecDepth 100000 in
set_option maxHeartbeats 800000 in
theorem specJust_any (A : Option Addr) (n c : Nat) (ts : List Blk) (A' : Option Addr) (n' c' : Nat) (ss : List Int) (V : Option Addr) (m d : Nat) (vs : List Vt) (w : World) (h : BlksAt w w.heap.size A n ts) (h' : IntsAt w w.heap.size A' n' ss) (hv : VotesAt w w.heap.size V m vs) (hn : n ≤ 1048576) (hn' : n' ≤ 1048576) (hm : m ≤ 1048576) :
    Calls Try.prog 32 #[.slice A n c, .slice A' n' c', .slice V m d] w (RetOwn w (linksOk ts ss vs) (justR ts ss vs)) := by
  have hgl := Lib.hid (specGoodLinks_any A n c ts A' n' c' ss V m d vs w h h' hv hn hn' hm)
  have hh := Lib.hid h; have hh' := Lib.hid h'; have hvv := Lib.hid hv
  clear h h' hv
  cases g : linksOk ts ss vs
  · have hr := Lib.hid (show justR ts ss vs = [] by unfold justR; rw [g]; rfl)
    rw [g] at hgl
    rw [hr.out]
    go_enter Try.func32, Try.ntmps32
    go_wp2_with (go_at_call 16; refine hgl.out.mono ?_; rintro e w1 ⟨rfl, b1⟩; have u1 := Lib.hid b1; clear b1)
    go_ret2
    exact ⟨none, 0, 0, rfl, own_nil _ _, u1.out⟩
  · have hr := Lib.hid (show justR ts ss vs = justL ts ss vs by unfold justR; rw [g, if_pos rfl])
    have hok := Lib.hid g
    rw [g] at hgl
    rw [hr.out]
    clear g
    go_enter Try.func32, Try.ntmps32
    go_wp2_with (first
      | (go_at_call 16; refine hgl.out.mono ?_; rintro e w1 ⟨rfl, b1⟩; have u1 := Lib.hid b1; clear b1)
      | (go_at_call 94; refine (l10Just_any A n c ts A' n' c' ss V m d vs _ hok.out (hh.out.up u1.out) (hh'.out.up' u1.out) (hvv.out.up u1.out)).mono ?_; rintro e w2 ⟨A2, n2, c2, rfl, o2, b2⟩; have o2' := Lib.hid (o2.fewer u1.out.size); have u2 := Lib.hid (u1.out.trans (b2.mono u1.out.size)); clear o2 b2))
    go_ret2
    exact ⟨A2, n2, c2, rfl, o2'.out, u2.out⟩
end Go.Proofs.Ythiegfbdmmpabaa
