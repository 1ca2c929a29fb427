/- What is proved here: what the program's setOfVotes, votesInOrder and codeOfPut return. No conditions but lengths. -/
import Derived.Test.YtlobjfipefibaaaVSortF
import Derived.Test.YtlobjfipefibaaaPoolBox
import Derived.Test.YtlobjfipefibaaaShelf
namespace Go.Proofs.Ytlobjfipefibaaa
open Go.RowKit Go.Maps Go.Sort Go.Shelf Go.Lib

set_option maxRecDepth 100000 in
set_option maxHeartbeats 1600000 in
theorem setOf_any (V : Option Addr) (m d : Nat) (vs : List Vt) (w : World) (hv : VotesAt w w.heap.size V m vs) (hm : m ≤ 1048576) (hw : ∀ j, j < m → wfV (getV vs j)) :
    Calls Try.prog 73 #[.slice V m d] w fun e w' => ∃ b, e = .returned (.map (some b)) ∧ w'.ownsMap Try.prog 53 boE b m (vD vs m) ∧ w.heap.size ≤ b ∧ Below w.heap.size w w' := by
  have hlv := Lib.hid hv.1
  have hvv := Lib.hid hv; clear hv
  have hw' := Lib.hid hw; clear hw
  have hmm := @run_makeMap Try.prog
  have hm0 := Lib.hid (World.ownsMap_made w Try.prog 53 boE)
  have u0 := Lib.hid (bx_below w (.map #[] 0))
  have hs0 : w.heap.size + 1 ≤ (w.alloc (.map #[] 0)).heap.size := by simp
  go_enter Try.func73, Try.ntmps73
  go_wp2_with fail
  clear hmm
  go_loopw [5, 9] (fun _ i wr => ∃ k : Nat, k ≤ m ∧ i = .int .i64 k ∧ Hid (wr.ownsMap Try.prog 53 boE w.heap.size k (vD vs k)) ∧ Hid (Below w.heap.size w wr) ∧ w.heap.size + 1 ≤ wr.heap.size) (fun _ i _ => m - (intOf i).toNat)
  case atStart => exact ⟨0, Nat.zero_le _, rfl, hm0, u0, hs0⟩
  case round =>
    obtain ⟨k, hk, rfl, hown, hbel, hsz⟩ := hrel
    by_cases hlt : k < m
    · obtain ⟨vb, vo, rfl, hvb, q0, q1, q2⟩ := hvv.out.2 k hlt
      have q0' := (hbel.out.cell (p := ⟨vb, vo + k * 3, none⟩) hvb).trans q0
      have q1' := (hbel.out.cell (p := ⟨vb, vo + k * 3 + 1, none⟩) hvb).trans q1
      have q2' := (hbel.out.cell (p := ⟨vb, vo + k * 3 + 2, none⟩) hvb).trans q2
      have hkey := Lib.hid (keyVote (hw'.out k hlt))
      obtain ⟨b, hb⟩ : ∃ b, getV vs k = b := ⟨_, rfl⟩
      have hst := Lib.hid (show vD vs (k + 1) = (vD vs k).put (kv b) (.lit (.bool true)) by simp only [vD]; rw [hb])
      rw [hb] at q0' q1' q2' hkey
      obtain ⟨b1, b2, b3⟩ := b
      simp only at q0' q1' q2'
      clear q0 q1 q2 hb
      go_wp2_with (at_mapUpdate; refine wpList_mapUpdate_own _ rfl _ _ _ 97 rfl 53 4 lawVt Try.underlying97 boE w.heap.size k (vD vs k) rfl (hown.out.alloc _) (by unfold maxLen; omega) _ _ _ rfl rfl hkey.out _ [] (boE_mk true) ?_; intro w1 hown1 hgrow1; have z1 := Lib.hid hown1; have z2 := Lib.hid hgrow1; clear hown1 hgrow1)
      have u1 := Lib.hid (show Below w.heap.size w w1 from by
        exact (hbel.out.alloc (Nat.le_trans (Nat.le_succ _) hsz) _).grown z2.out (by simp; omega) (fun j e => by cases e; exact Nat.le_refl _))
      have hs1 : w.heap.size + 1 ≤ w1.heap.size := by have := z2.out.size; simp at this; omega
      go_roundw
      case rel => exact ⟨k + 1, by omega, by go_num, Lib.hid (by rw [hst.out]; exact z1.out), u1, hs1⟩
      case measure => simp [intOf]; omega
    · have hkm : k = m := by omega
      have hown' := Lib.hid (show wr.ownsMap Try.prog 53 boE w.heap.size m (vD vs m) by rw [hkm] at hown; exact hown.out)
      clear hkm hown
      go_wp2_with fail
      go_ret
      exact ⟨w.heap.size, rfl, hown'.out, Nat.le_refl _, hbel.out⟩

theorem vtSort (g cap : Nat) (ss : List Vt) (w : World) (hH : Holds id w g 0 (flatK encV 3 ss.toArray)) (hg : g < w.heap.size) (hs : ss.length < 4611686018427387904) :
    Calls Try.prog 109 #[.slice (some ⟨g, 0, none⟩) ss.length cap, .func (.func 110) #[] #[]] w fun e w' => e = .returned (.tuple #[]) ∧ ∃ n os, w' = grow (putRow id (Sort.ahead w n) g 0 (flatK encV 3 (sortV ss).toArray)) os := by
  have eg : ∀ args w, (callFunc 110 args).run Try.prog w = .ok (.enter 110 args) w := enters_of Try.func110 (by kernel_rfl) rfl
  have h := AnyQ.slices_SortFunc_total Try.vtSortL 3 Try.isAgg53 Try.sizeOf53 encV (fun _ => rfl) (fun x v hv => by simp [encV] at hv; rcases hv with rfl | rfl | rfl <;> rfl) cmpV swoV 110 #[] g 0 cap ss.toArray w eg (cmpLays_V g 0 ss.toArray.size w) hH hg (by simpa using hs) totV
  change Calls Try.prog 109 _ _ _ at h
  simp only [List.size_toArray] at h
  exact h
theorem vtSortNil (p : Option Addr) (cap : Nat) (fv : Value) (w : World) :
    Calls Try.prog 109 #[.slice p 0 cap, fv] w fun e w' => e = .returned (.tuple #[]) ∧ w' = w := by
  have h := AnyF.slices_SortFunc_none Try.vtSortL p cap fv w
  change Calls Try.prog 109 _ _ _ at h
  exact h
def RetVt (w : World) (vs : List Vt) (e : Ending) (w' : World) : Prop :=
  ∃ A n c, e = .returned (.slice A n c) ∧ OwnV w' w.heap.size A n vs ∧ Below w.heap.size w w'

set_option maxRecDepth 100000 in
set_option maxHeartbeats 1600000 in
theorem inOrder_any (b N : Nat) (D : DataW Unit) (w : World) (hown : w.ownsMap Try.prog 53 boE b N D) (hN : N ≤ 1048576) :
    Calls Try.prog 74 #[.map (some b)] w fun e w' => ∃ ss : List Vt, (ss.Nodup ∧ (∀ x ∈ ss, wfV x) ∧ ∀ x, wfV x → (x ∈ ss ↔ Maps.has D (kv x) = true)) ∧ RetVt w (sortV ss) e w' := by
  have ho := Lib.hid hown
  have hbl := hown.lt
  have hsD := hown.size_le
  clear hown
  go_enter Try.func74, Try.ntmps74
  go_wp2_with (at_range; refine wpList_range_own _ rfl _ 97 rfl 53 4 lawVt Try.underlying97 boE b N D rfl ho.out ?_; intro w0 hrg0 hg0 hs0; have z0 := Lib.hid hrg0; have u0 := Lib.hid ((Below.refl w.heap.size w).grown hg0 (Nat.le_refl _) (fun k e => by cases e)); have hw0 : w.heap.size + 1 ≤ w0.heap.size := Nat.le_of_eq hs0.symm; clear hrg0 hg0 hs0)
  try go_simp
  go_wp2_with fail
  go_loopw [3, 4] (fun o _ wr => ∃ (left : Lit → Bool) (cnt : Nat) (ss : List Vt), Hid (wr.ranges Try.prog 53 boE b w.heap.size N D left cnt) ∧ Hid (wr.ownsRow (w.heap.size + 1) 53 3 o ss.length (flatV ss)) ∧ Hid (CollV D left ss) ∧ ss.length + cnt ≤ N ∧ Hid (Below w.heap.size w wr) ∧ w.heap.size + 1 ≤ wr.heap.size) (fun _ _ wr => wr.rangeLeft b w.heap.size)
  case atStart => exact ⟨_, _, [], z0, Lib.hid (World.ownsRow_nil _ _ _ _), Lib.hid (collV_start D), by simpa using hsD, u0, hw0⟩
  case round =>
    obtain ⟨left, cnt, ss, hrg, hss, hC, hle, hbel, hws⟩ := hrel
    have hleft := Lib.hid hrg.out.left_eq
    go_wp2_with (at_next; refine wpList_next_ranges _ rfl _ rfl 53 lawVt boE vtV (fun b : Bool => Value.bool b) (fun key kl hk => by obtain ⟨x, hx, _⟩ := keyVote_inv hk; exact ⟨x, hx⟩) (fun v y hv => by obtain ⟨c, hc, _⟩ := boE_inv hv; exact ⟨c, hc⟩) b w.heap.size N D left cnt rfl hrg.out ?_ ?_)
    · intro h0 hl0
      have hC0 := Lib.hid (collV_end hC.out hl0)
      have b1 : ss.length ≤ 1048576 := by omega
      clear hl0 hleft
      rcases hss.out.2 with ⟨rfl, hn0⟩ | ⟨g, cap, cur, rfl, hbase, hgg, c1, c2, c3, c4⟩
      · have hs0 : ss = [] := List.length_eq_zero_iff.1 hn0
        subst hs0
        have hnil := Lib.hid (vtSortNil none 0 (.func (.func 110) #[] #[]) wr)
        go_wp2_with fail
        refine hnil.out.mono ?_
        rintro e w3 ⟨rfl, rfl⟩
        go_wp2_with fail
        go_ret
        exact ⟨[], hC0.out, none, 0, 0, rfl, by rw [show sortV [] = [] from by simp [sortV]]; exact OwnV.nil _ _, hbel.out⟩
      · have hgl : g < wr.heap.size := (Array.getElem?_eq_some_iff.1 hgg).1
        have hF := flatK_V ss
        have hFs : (flatK encV 3 ss.toArray).size = ss.length * 3 := by simp
        have hsort := Lib.hid (vtSort g cap ss wr (holds_of_blockF (flatK encV 3 ss.toArray) hgg (by rw [hFs, hF]; exact c4)) hgl (by omega))
        have hp := Lib.hid hgg; have hq1 := Lib.hid c1; have hq2 := Lib.hid c2; have hq3 := Lib.hid c3
        clear hgg c1 c2 c3 c4 hF hFs
        go_wp2_with fail
        refine hsort.out.mono ?_
        rintro e w3 ⟨rfl, q, os, hw3⟩
        have o3 := Lib.hid (show w3.ownsRow w.heap.size 53 3 (.slice (some ⟨g, 0, none⟩) ss.length cap) ss.length (flatV (sortV ss)) by
          rw [hw3, ← flatK_V (sortV ss)]
          exact (ownsRow_sortedF (flatK encV 3 (sortV ss).toArray) hbase hp.out hq1.out hq2.out hq3.out (by simp [sortV_len])).mono (by omega))
        have u3 := Lib.hid (hbel.out.grown (show wr.grownBy w3 (some g) by rw [hw3]; exact grownBy_sortedF _) (by omega) (fun j e => by injection e with e; omega))
        clear hw3 hsort
        go_wp2_with fail
        go_ret
        obtain ⟨A6, c6, e6, o6⟩ := OwnV.of_owns o3.out
        exact ⟨ss, hC0.out, A6, _, c6, by rw [e6]; rfl, o6, u3.out⟩
    · intro x1 x2 x3
      refine ⟨?_, ?_⟩
      all_goals
        intro kl yd yp w2 cnt2 hkey hlk hv hat hrg2 hlt hg2 hs2 hen
        simp only [vtV] at hen ⊢
        obtain ⟨x', hx1, hx2, hwx⟩ := keyVote_inv hkey
        have hx1 := vtV_inj hx1
        subst hx1
        subst hx2
        have hss2 := Lib.hid (hss.out.kept hg2 (by
          cases hob : u3.ownBlock with
          | none => exact Or.inl rfl
          | some k => exact Or.inr (fun e => by injection e with e; have := (hss.out.lt k hob).1; omega)))
        have hbel2 := Lib.hid (hbel.out.grown hg2 (by omega) (fun j e => by injection e with e; omega))
        have hC2 := Lib.hid (collV_step hC.out hwx hlk)
        have hr2 := Lib.hid hrg2
        have hl2 := Lib.hid hrg2.left_eq
        have b1 : ss.length ≤ 1048576 := by omega
        have hws2 : w.heap.size + 1 ≤ w2.heap.size := by rw [hs2]; exact hws
        have hen' := Lib.hid hen
        have hb3 := three_cells (w2.alloc (.cells #[.int .i64 x1, .int .i64 x2, .int .i64 x3] 53)) x1 x2 x3 53
        rw [show (w2.alloc (.cells #[.int .i64 x1, .int .i64 x2, .int .i64 x3] 53)).heap.size = w2.heap.size + 1 by simp] at hb3
        have k0 := hb3.cell (i := 0) (by omega)
        have k1 := hb3.cell (i := 1) (by omega)
        have k2 := hb3.cell (i := 2) (by omega)
        simp only [if_true, if_false, show (1 : Nat) ≠ 0 by decide, show (2 : Nat) ≠ 0 by decide, show (2 : Nat) ≠ 1 by decide] at k0 k1 k2
        have K0 := Lib.hid k0; have K1 := Lib.hid k1; have K2 := Lib.hid k2
        clear hs2 hg2 hrg2 hv hat hkey hlk hen hwx hb3 k0 k1 k2
        go_wp2_with fail
        rw [hen'.out]
        try go_simp
        go_wp2_with (at_builtin; refine appendVt _ rfl _ _ 27 rfl (w.heap.size + 1) Try.underlying27 _ ss rfl ((hss2.out.alloc _).alloc _) (w2.heap.size + 1) 1 x1 x2 x3 rfl K0.out K1.out K2.out (by omega) (by simp; omega) ?_; intro g c' w3 r1 r2 r3; have z1 := Lib.hid r1; have z2 := Lib.hid r2; clear r1 r2 r3)
        have z3 := Lib.hid (show ((w2.alloc (.cells #[.int .i64 x1, .int .i64 x2, .int .i64 x3] 53)).alloc (.cells #[.int .i64 x1, .int .i64 x2, .int .i64 x3] 53)).grownBy w3 u3.ownBlock from z2.out)
        have hlt1 : ∀ k, u3.ownBlock = some k → w.heap.size + 1 ≤ k := fun k e => (hss2.out.lt k e).1
        have hr3 := Lib.hid (((hr2.out.alloc (.cells #[.int .i64 x1, .int .i64 x2, .int .i64 x3] 53)).alloc (.cells #[.int .i64 x1, .int .i64 x2, .int .i64 x3] 53)).kept z3.out (fun e => by have := hlt1 b e.symm; omega) (fun e => by have := hlt1 _ e.symm; omega))
        have hbel3 := Lib.hid (((hbel2.out.alloc (by omega) (.cells #[.int .i64 x1, .int .i64 x2, .int .i64 x3] 53)).alloc (by simp; omega) (.cells #[.int .i64 x1, .int .i64 x2, .int .i64 x3] 53)).grown z3.out (by simp; omega) (fun j e => by have := hlt1 j e; omega))
        have hl3 := hr3.out.left_eq
        have hs3 : w.heap.size + 1 ≤ w3.heap.size := by have h9 := z3.out.size; simp at h9; omega
        exact ⟨⟨_, cnt2, ss ++ [(x1, x2, x3)], hr3, z1, hC2, by simp; omega, hbel3, hs3⟩, by rw [hl3, hleft]; exact hlt⟩

set_option maxRecDepth 100000 in
theorem codeOf_any (b N : Nat) (D : DataW Unit) (x y z : Int) (w : World) (hown : w.ownsMap Try.prog 53 boE b N D) (hwf : wfV (x, y, z)) (r : Bool) (hr : D.atKey (kv (x, y, z)) (.lit (.bool false)) = .lit (.bool r)) :
    Calls Try.prog 82 #[.map (some b), .agg #[.int .i64 x, .int .i64 y, .int .i64 z]] w fun e w' => e = .returned (.int .i64 (if r = true then 1 else if Maps.size D = 60 then 2 else 0)) ∧ Below w.heap.size w w' := by
  have ho := Lib.hid (hown.alloc (.cells #[.int .i64 x, .int .i64 y, .int .i64 z] 53))
  have hb := Lib.hid (bx_below w (.cells #[.int .i64 x, .int .i64 y, .int .i64 z] 53))
  have hz : ∀ w, (zeroValue 4).run Try.prog w = .ok (.bool false) w := fun w => by kernel_rfl
  have hkey := Lib.hid (keyVote hwf)
  have hat := Lib.hid hr
  obtain ⟨K, hK⟩ : ∃ K, Maps.size D = K := ⟨_, rfl⟩
  rw [hK]
  clear hown hwf hr
  cases r
  · by_cases hs : K = 60
    · have hsI : ((K : Int) == 60) = true := by rw [hs]; rfl
      go_enter Try.func82, Try.ntmps82
      go_wp2_with (first
        | (at_lookup; refine wpList_lookup_mark _ rfl _ _ 97 rfl 53 4 lawVt Try.underlying97 (hz _) b N D rfl ho.out _ _ rfl hkey.out _ hat.out ?_)
        | (at_len; refine wpList_len_own _ rfl _ 97 rfl 53 4 Try.underlying97 boE b N D rfl ho.out ?_))
      go_ret
      exact ⟨by first | rfl | (rw [if_neg (by decide), if_pos hs]; rfl), hb.out⟩
    · have hsI : ((K : Int) == 60) = false := by simp; omega
      go_enter Try.func82, Try.ntmps82
      go_wp2_with (first
        | (at_lookup; refine wpList_lookup_mark _ rfl _ _ 97 rfl 53 4 lawVt Try.underlying97 (hz _) b N D rfl ho.out _ _ rfl hkey.out _ hat.out ?_)
        | (at_len; refine wpList_len_own _ rfl _ 97 rfl 53 4 Try.underlying97 boE b N D rfl ho.out ?_))
      go_ret
      exact ⟨by first | rfl | (rw [if_neg (by decide), if_neg hs]; rfl), hb.out⟩
  · go_enter Try.func82, Try.ntmps82
    go_wp2_with (first
      | (at_lookup; refine wpList_lookup_mark _ rfl _ _ 97 rfl 53 4 lawVt Try.underlying97 (hz _) b N D rfl ho.out _ _ rfl hkey.out _ hat.out ?_)
      | (at_len; refine wpList_len_own _ rfl _ 97 rfl 53 4 Try.underlying97 boE b N D rfl ho.out ?_))
    go_ret
    exact ⟨rfl, hb.out⟩
end Go.Proofs.Ytlobjfipefibaaa
