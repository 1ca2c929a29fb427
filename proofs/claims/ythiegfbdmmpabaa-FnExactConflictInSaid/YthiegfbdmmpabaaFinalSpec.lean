/- What is proved here: what the model's FinalIn returns. No conditions but lengths. -/
import Derived.Test.YthiegfbdmmpabaaJustSpec
namespace Go.Proofs.Ythiegfbdmmpabaa
open Go.RowKit

/-- A child of the block among the first j blocks is linked from it. -/
def finK (ts : List Blk) (ss : List Int) (ls : List Vt) (b : Int) (j : Nat) : Bool := (List.range j).any fun c => parZ ts c == b && grB ss ls b (c : Int)
theorem finK_succ (ts : List Blk) (ss : List Int) (ls : List Vt) (b : Int) (j : Nat) : finK ts ss ls b (j + 1) = (finK ts ss ls b j || (parZ ts j == b && grB ss ls b (j : Int))) := by
  unfold finK; rw [List.range_succ, List.any_append]; simp
theorem filterI_step {l : List Int} {k : Nat} (p : Int → Bool) (h : k < l.length) : (l.take (k + 1)).filter p = if p (l[k]?.getD 0) = true then (l.take k).filter p ++ [l[k]?.getD 0] else (l.take k).filter p := by
  rw [List.take_succ_eq_append_getElem h, List.filter_append, List.getElem?_eq_getElem h, Option.getD_some]
  split
  · next e => simp [e]
  · next e => simp [e]
theorem filterI_len {l : List Int} {k : Nat} (p : Int → Bool) : ((l.take k).filter p).length ≤ l.length := Nat.le_trans (List.length_filter_le _ _) (by rw [List.length_take]; exact Nat.min_le_right _ _)

theorem owns_capF {w : World} {B : Nat} {v : Value} {n : Nat} {xs : List Value} (h : w.ownsRow B 3 1 v n xs) : ∀ A m c, v = .slice A m c → m ≤ c ∧ c ≤ maxLen := by
  intro A m c e
  rcases h.2 with ⟨rfl, _⟩ | ⟨g, cap, cur, rfl, _, _, h1, h2, _⟩
  · cases e; exact ⟨Nat.le_refl _, Nat.zero_le _⟩
  · cases e; exact ⟨h1, h2⟩
def RetSlC (w : World) (xs : List Int) (e : Ending) (w' : World) : Prop :=
  ∃ A n c, e = .returned (.slice A n c) ∧ OwnAt w' w.heap.size A n xs ∧ (n ≤ c ∧ c ≤ maxLen) ∧ Below w.heap.size w w'
theorem RetSlC.plain {w : World} {xs : List Int} {e : Ending} {w' : World} (h : RetSlC w xs e w') : RetSl w xs e w' := by
  obtain ⟨A, n, c, h1, h2, _, h3⟩ := h
  exact ⟨A, n, c, h1, h2, h3⟩
set_option maxRecDepth 100000 in
set_option maxHeartbeats 3200000 in
theorem l10FinalC_any (A : Option Addr) (n c : Nat) (ts : List Blk) (A' : Option Addr) (n' c' : Nat) (ss : List Int) (V : Option Addr) (m d : Nat) (vs : List Vt) (w : World) (hok : linksOk ts ss vs = true) (h : BlksAt w w.heap.size A n ts) (h' : IntsAt w w.heap.size A' n' ss) (hv : VotesAt w w.heap.size V m vs) :
    Calls Try.prog 96 #[.slice A n c, .slice A' n' c', .slice V m d] w (RetSlC w (finlL ts ss vs)) := by
  obtain ⟨i0, hi, hz0, hz1, hz2⟩ := put_parts put_info3
  have ht := (linksOk_iff.1 hok).1.1.1
  have hl := Lib.hid h.1
  have hfew : n ≤ 24 := by rw [← h.1]; exact ht.few
  have hjl := Lib.hid (justL_len (ss := ss) (ls := vs) ht)
  have hok' := Lib.hid hok
  have hh := Lib.hid h; have hh' := Lib.hid h'; have hvv := Lib.hid hv
  have hju := Lib.hid (l10Just_any A n c ts A' n' c' ss V m d vs w hok h h' hv)
  clear h h' hv ht hok
  go_enter Try.func96, Try.ntmps96
  go_wp2_with fail
  refine hju.out.mono ?_
  rintro e w1 ⟨AJ, L, cJ, rfl, oJ, bJ⟩
  obtain ⟨J, hJ⟩ : ∃ J, justL ts ss vs = J := ⟨_, rfl⟩
  rw [hJ] at oJ hjl
  have hfin := Lib.hid (show finlL ts ss vs = J.filter (finlP ts ss vs) by unfold finlL; rw [hJ])
  have hL := oJ.len
  have hL24 : L ≤ 24 := by have := hjl.out.2; omega
  have hL' := Lib.hid hL
  have u1 := Lib.hid bJ
  have iJ := Lib.hid oJ.ints
  clear oJ bJ hL hju hJ
  go_wp2_with fail
  go_loopw [7, 9, 10, 11, 17, 23] (fun o _ _ _ i _ wr => ∃ k : Nat, k ≤ L ∧ i = .int .i64 k ∧ Hid (wr.ownsRow w1.heap.size 3 1 o ((J.take k).filter (finlP ts ss vs)).length (((J.take k).filter (finlP ts ss vs)).map (Value.int .i64))) ∧ Hid (Below w1.heap.size w1 wr)) (fun _ _ _ _ i _ _ => L - (intOf i).toNat)
  case atStart => exact ⟨0, Nat.zero_le _, rfl, Lib.hid (World.ownsRow_nil _ _ _ _), Lib.hid (Below.refl _ _)⟩
  case round =>
    obtain ⟨k, hk, rfl, ho, hbel⟩ := hrel
    obtain ⟨K, hK⟩ : ∃ K, (J.take k).filter (finlP ts ss vs) = K := ⟨_, rfl⟩
    have hKl := filterI_len (l := J) (k := k) (finlP ts ss vs)
    rw [hK] at ho hKl
    by_cases hlt : k < L
    · have hst := Lib.hid (filterI_step (l := J) (k := k) (finlP ts ss vs) (by rw [hL'.out]; exact hlt))
      rw [hK] at hst
      obtain ⟨lb, lo, rfl, hlb, hc0⟩ := iJ.out.2 k hlt
      have hc := (hbel.out.cell (p := ⟨lb, lo + k, none⟩) hlb).trans hc0
      obtain ⟨x, hx⟩ : ∃ x, J[k]?.getD 0 = x := ⟨_, rfl⟩
      rw [hx] at hc hst
      clear hc0 hx hK
      go_wp2_with fail
      go_loopw [10, 11, 23] (fun f _ i wq => ∃ j : Nat, j ≤ n ∧ i = .int .i64 j ∧ f = .bool (finK ts ss vs x j) ∧ Hid (wq.ownsRow w1.heap.size 3 1 u7 K.length (K.map (Value.int .i64))) ∧ Hid (Below w1.heap.size w1 wq)) (fun _ _ i _ => n - (intOf i).toNat)
      case atStart => exact ⟨0, Nat.zero_le _, rfl, rfl, ho, hbel⟩
      case round =>
        obtain ⟨j, hj, rfl, rfl, hoq, hbq⟩ := hrel
        have u2 := Lib.hid (u1.out.trans (hbq.out.mono u1.out.size))
        by_cases hjl2 : j < n
        · obtain ⟨bb, off, rfl, hbb, hd0, hd1⟩ := (hh.out.up u2.out).2 j hjl2
          obtain ⟨p, hp⟩ : ∃ p, (ts[j]?.getD (0, 0)).1 = p := ⟨_, rfl⟩
          have hpz := Lib.hid (show parZ ts j = p from hp)
          rw [hp] at hd0
          have hsu := Lib.hid (finK_succ ts ss vs x j)
          rw [hpz.out] at hsu
          clear hp
          cases gf : finK ts ss vs x j
          · rw [gf, Bool.false_or] at hsu
            cases gp : (p == x)
            · have hnx := Lib.hid (show finK ts ss vs x (j + 1) = false by rw [hsu.out, gp]; rfl)
              go_wp2_with fail
              go_roundw
              case rel => exact ⟨j + 1, by omega, by go_num, by rw [hnx.out], hoq, hbq⟩
              case measure => simp [intOf]; omega
            · have his := Lib.hid (l10Is_any A' n' c' ss V m d vs x (j : Int) wr ts hok'.out (hh'.out.up' u2.out) (hvv.out.up u2.out))
              obtain ⟨g, hg⟩ : ∃ g, grB ss vs x (j : Int) = g := ⟨_, rfl⟩
              have hnx := Lib.hid (show finK ts ss vs x (j + 1) = g by rw [hsu.out, gp, hg]; rfl)
              rw [hg] at his
              clear hg
              cases g
              all_goals
                go_wp2_with (go_at_call 92; refine his.out.mono ?_; rintro e w4 ⟨rfl, b4⟩; have u4 := Lib.hid (hbq.out.trans (b4.mono hbq.out.size)); have o4 := Lib.hid (owns_belowL hoq.out b4); clear b4)
                go_roundw
                case rel => exact ⟨j + 1, by omega, by go_num, by rw [hnx.out], o4, u4⟩
                case measure => simp [intOf]; omega
          · have hnx := Lib.hid (show finK ts ss vs x (j + 1) = true by rw [hsu.out, gf]; rfl)
            go_wp2_with fail
            go_roundw
            case rel => exact ⟨j + 1, by omega, by go_num, by rw [hnx.out], hoq, hbq⟩
            case measure => simp [intOf]; omega
        · have hje : j = n := by omega
          have hfp := Lib.hid (show finK ts ss vs x j = finlP ts ss vs x by unfold finK finlP; rw [hje, hl.out])
          rw [hfp.out]
          clear hje u2
          have hws := hbq.out.size
          have hK1 : K.length ≤ 1048576 := by have := hL'.out; omega
          cases gg : finlP ts ss vs x
          · have hnx := Lib.hid (show (J.take (k + 1)).filter (finlP ts ss vs) = K by rw [hst.out, gg]; rfl)
            go_wp2_with fail
            go_roundw
            case rel => exact ⟨k + 1, by omega, by go_num, Lib.hid (by rw [hnx.out]; exact hoq.out), hbq⟩
            case measure => simp [intOf]; omega
          · have hnx := Lib.hid (show (J.take (k + 1)).filter (finlP ts ss vs) = K ++ [x] by rw [hst.out, gg, if_pos rfl])
            go_wp2_with (at_builtin; refine appendV _ rfl _ _ 23 rfl w1.heap.size i0 Try.underlying23 hi hz0 hz1 hz2 _ K rfl (hoq.out.alloc _) wr.heap.size 0 1 x rfl ((bx_row wr (.int .i64 x) 3).cell (i := 0) (by omega)) hK1 (by simp; omega) ?_; intro g9 c9 w9 r1 r2 r3; have z1 := Lib.hid r1; have z2 := Lib.hid r2; clear r1 r2 r3)
            have u9 := Lib.hid ((hbq.out.alloc hws (.cells #[.int .i64 x] 3)).grown z2.out (by simp; omega) (fun j e => ((hoq.out.alloc (.cells #[.int .i64 x] 3)).lt j e).1))
            go_roundw
            case rel => exact ⟨k + 1, by omega, by go_num, Lib.hid (by rw [hnx.out]; simpa using z1.out), u9⟩
            case measure => simp [intOf]; omega
    · have hke := Lib.hid (show K = finlL ts ss vs by rw [← hK, hfin.out, List.take_of_length_le (by rw [hL'.out]; omega)])
      obtain ⟨A1, c1, e1, own1⟩ := OwnAt.of_owns ho.out
      have own1' := Lib.hid own1
      subst e1
      clear own1 hK
      go_wp2_with fail
      go_ret
      exact ⟨A1, _, c1, rfl, by rw [← hke.out]; exact own1'.out.fewer u1.out.size, owns_capF ho.out _ _ _ rfl, u1.out.trans (hbel.out.mono u1.out.size)⟩
theorem l10Final_any (A : Option Addr) (n c : Nat) (ts : List Blk) (A' : Option Addr) (n' c' : Nat) (ss : List Int) (V : Option Addr) (m d : Nat) (vs : List Vt) (w : World) (hok : linksOk ts ss vs = true) (h : BlksAt w w.heap.size A n ts) (h' : IntsAt w w.heap.size A' n' ss) (hv : VotesAt w w.heap.size V m vs) :
    Calls Try.prog 96 #[.slice A n c, .slice A' n' c', .slice V m d] w (RetSl w (finlL ts ss vs)) :=
  (l10FinalC_any A n c ts A' n' c' ss V m d vs w hok h h' hv).mono fun _ _ h => h.plain

set_option maxRecDepth 100000 in
set_option maxHeartbeats 800000 in
theorem specFinalIn_any (A : Option Addr) (n c : Nat) (ts : List Blk) (A' : Option Addr) (n' c' : Nat) (ss : List Int) (V : Option Addr) (m d : Nat) (vs : List Vt) (w : World) (h : BlksAt w w.heap.size A n ts) (h' : IntsAt w w.heap.size A' n' ss) (hv : VotesAt w w.heap.size V m vs) (hn : n ≤ 1048576) (hn' : n' ≤ 1048576) (hm : m ≤ 1048576) :
    Calls Try.prog 34 #[.slice A n c, .slice A' n' c', .slice V m d] w (RetOwn w (linksOk ts ss vs) (finlR ts ss vs)) := by
  have hgl := Lib.hid (specGoodLinks_any A n c ts A' n' c' ss V m d vs w h h' hv hn hn' hm)
  have hh := Lib.hid h; have hh' := Lib.hid h'; have hvv := Lib.hid hv
  clear h h' hv
  cases g : linksOk ts ss vs
  · have hr := Lib.hid (show finlR ts ss vs = [] by unfold finlR; rw [g]; rfl)
    rw [g] at hgl
    rw [hr.out]
    go_enter Try.func34, Try.ntmps34
    go_wp2_with (go_at_call 16; refine hgl.out.mono ?_; rintro e w1 ⟨rfl, b1⟩; have u1 := Lib.hid b1; clear b1)
    go_ret2
    exact ⟨none, 0, 0, rfl, own_nil _ _, u1.out⟩
  · have hr := Lib.hid (show finlR ts ss vs = finlL ts ss vs by unfold finlR; rw [g, if_pos rfl])
    have hok := Lib.hid g
    rw [g] at hgl
    rw [hr.out]
    clear g
    go_enter Try.func34, Try.ntmps34
    go_wp2_with (first
      | (go_at_call 16; refine hgl.out.mono ?_; rintro e w1 ⟨rfl, b1⟩; have u1 := Lib.hid b1; clear b1)
      | (go_at_call 96; refine (l10Final_any A n c ts A' n' c' ss V m d vs _ hok.out (hh.out.up u1.out) (hh'.out.up' u1.out) (hvv.out.up u1.out)).mono ?_; rintro e w2 ⟨A2, n2, c2, rfl, o2, b2⟩; have o2' := Lib.hid (o2.fewer u1.out.size); have u2 := Lib.hid (u1.out.trans (b2.mono u1.out.size)); clear o2 b2))
    go_ret2
    exact ⟨A2, n2, c2, rfl, o2'.out, u2.out⟩
end Go.Proofs.Ythiegfbdmmpabaa
