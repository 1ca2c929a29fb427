/- What is proved here: the contract of the iterator over a block's children. No conditions. -/
import Derived.Test.YtgdgajgfehjjdaaRangeO
import Derived.Test.YtgdgajgfehjjdaaTours
namespace Go.Proofs.Ytgdgajgfehjjdaa
open Go.RowKit Go.Shelf

attribute [local go_sem] Oper.semAt_some

set_option maxRecDepth 100000 in
set_option maxHeartbeats 1000000 in
theorem kids_seq (A : Option Addr) (n c : Nat) (ts : List Blk) (b Bt Bb n₀ : Nat) (w : World) (h : BlksAt w n₀ A n ts) (hn : n ≤ 1048576) (hn0 : n₀ ≤ w.heap.size)
    (hbt : Boxed w Bt 32 (.slice A n c)) (hbb : Boxed w Bb 3 (.int .i64 b)) :
    SeqO Try.prog 153 #[.pointer (some ⟨Bt, 0, none⟩), .pointer (some ⟨Bb, 0, none⟩)] (fun x : Nat => #[Value.int .i64 x]) n₀ (fun k => k = Bt ∨ k = Bb) (kidsL ts b n) w := by
  intro l J Jx W hW hJ hJx hY h0
  have ht1 : Boxed W Bt 32 (.slice A n c) := (hW.block Bt hbt.lt).trans hbt
  have hb1 : Boxed W Bb 3 (.int .i64 b) := (hW.block Bb hbb.lt).trans hbb
  have hh := Lib.hid (h.below (hW.mono hn0))
  have htc := ht1.cell
  have hY' := Lib.hid hY
  have hn0' := Lib.hid hn0
  have hWs := Lib.hid hW.size
  clear h hbt hbb hW ht1 hY hn0
  refine callsIn_of_wp Try.func153 rfl trivial ?_ rfl
  simp only [Try.ntmps153, List.size_toArray, List.length_cons, List.length_nil, Nat.reduceAdd, Nat.reduceSub, Array.replicate_succ, Array.replicate_zero, List.push_toArray, List.append_toArray, List.nil_append, List.cons_append]
  gi_wp2
  gi_loopw [4, 5, 8] (fun _ _ i wr => ∃ (k : Nat) (Pr : Nat → Prop), k ≤ n ∧ i = .int .i64 k ∧ Hid (J (kidsL ts b k) Pr wr) ∧ Hid (Pr Bt ∧ Pr Bb) ∧ Hid (Boxed wr Bb 3 (.int .i64 b)) ∧ Hid (BlksAt wr n₀ A n ts) ∧ n₀ ≤ wr.heap.size) (fun _ _ i _ => n - (intOf i).toNat)
  case atStart => exact ⟨0, fun k => k = Bt ∨ k = Bb, Nat.zero_le _, rfl, Lib.hid h0, Lib.hid ⟨.inl rfl, .inr rfl⟩, Lib.hid hb1, hh, Nat.le_trans hn0'.out hWs.out⟩
  case round =>
    obtain ⟨k, Pr, hk, rfl, hj, hp, hbx, ha, hsz⟩ := hrel
    by_cases hlt : k < n
    · obtain ⟨bb, off, e, hbb', hcs⟩ := ha.out.at (by omega)
      have d0 := (hcs k hlt).1
      have d1 := (hcs k hlt).2
      subst e
      clear hcs
      obtain ⟨p, hpp⟩ : ∃ p, (ts[k]?.getD (0, 0)).1 = p := ⟨_, rfl⟩
      obtain ⟨q, hqq⟩ : ∃ q, (ts[k]?.getD (0, 0)).2 = q := ⟨_, rfl⟩
      rw [hpp] at d0
      rw [hqq] at d1
      have hpz := Lib.hid (show parZ ts k = p from hpp)
      clear hpp hqq
      by_cases hpb : p = b
      · subst hpb
        have dbx := (hbx.out.alloc (.cells #[.int .i64 b, .int .i64 q] 90)).cell
        have hbx2 := Lib.hid (hbx.out.alloc (.cells #[.int .i64 b, .int .i64 q] 90))
        have ha2 := Lib.hid (ha.out.below (((Below.refl n₀ wr).alloc hsz (.cells #[.int .i64 b, .int .i64 q] 90))))
        have hj2 := Lib.hid (hJ.alloc (Pr' := Pr) (.cells #[.int .i64 b, .int .i64 q] 90) hj.out (fun _ h => .inl h))
        have hpre := kids_prefix ts b (k := k + 1) (m := n) (by omega)
        have hst := Lib.hid (kids_yes hpz.out)
        rw [hst.out] at hpre
        have hpre' := Lib.hid hpre
        obtain ⟨fn, tmps, assign, body, hy, hR⟩ := hY'.out (kidsL ts b k) k Pr _ hpre hj2.out
        have hR' := Lib.hid hR
        clear hR hpre
        gi_wp2
        refine ⟨rfl, hR'.out.mono ?_⟩
        rintro e W3 (⟨rfl, hJ3, hk3, hp3⟩ | ⟨rfl, hJx3, hk3, hp3⟩)
        · have hbx3 : Boxed W3 Bb 3 (.int .i64 b) := hp3.heap hp.out.2 hbx2.out
          have hs3 := hk3.size
          have hs4 : n₀ ≤ W3.heap.size := by have := World.size_alloc wr (.cells #[.int .i64 b, .int .i64 q] 90); omega
          have ha3 := ha2.out.below hk3
          rw [← hst.out] at hJ3
          have f1 := Lib.hid hJ3; have f2 := Lib.hid hbx3; have f3 := Lib.hid ha3
          clear hJ3 hbx3 ha3 hk3 hp3 hs3
          gi_wp2
          go_roundw
          case rel => exact ⟨k + 1, Pr, by omega, by go_num, f1, hp, f2, f3, hs4⟩
          case measure => simp [intOf]; omega
        · have f1 := Lib.hid hJx3
          clear hJx3 hk3 hp3
          gi_wp2
          refine bodyPost_ret (results_none rfl _ _ _) rfl ?_
          exact ⟨⟨_, rfl⟩, .inr ⟨_, Pr, hpre'.out, f1.out⟩⟩
      · have hst := Lib.hid (kids_no (ts := ts) (b := b) (k := k) (fun e => hpb (hpz.out.symm.trans e)))
        have dbx := (hbx.out.alloc (.cells #[.int .i64 p, .int .i64 q] 90)).cell
        have hbx2 := Lib.hid (hbx.out.alloc (.cells #[.int .i64 p, .int .i64 q] 90))
        have ha2 := Lib.hid (ha.out.below (((Below.refl n₀ wr).alloc hsz (.cells #[.int .i64 p, .int .i64 q] 90))))
        have hj2 := Lib.hid (hJ.alloc (Pr' := Pr) (.cells #[.int .i64 p, .int .i64 q] 90) hj.out (fun _ h => .inl h))
        have hcb : (p == (b : Int)) = false := by simp [hpb]
        gi_wp2
        refine ⟨fun _ h => (by cases h), ?_⟩
        gi_wp2
        go_roundw
        case rel => exact ⟨k + 1, Pr, by omega, by go_num, by rw [hst.out]; exact hj2, hp, hbx2, ha2, by simp; omega⟩
        case measure => simp [intOf]; omega
    · have hkn : k = n := by omega
      have hj' := Lib.hid (show J (kidsL ts b n) Pr wr by rw [← hkn]; exact hj.out)
      clear hkn
      gi_wp2
      go_end0
      exact ⟨⟨_, rfl⟩, .inl ⟨Pr, hj'.out⟩⟩

set_option maxRecDepth 100000 in
theorem childrenIn_any (A : Option Addr) (n c : Nat) (b : Int) (w : World) :
    Calls Try.prog 124 #[.slice A n c, .int .i64 b] w fun e w' => e = .returned (.func (.func 153) #[] #[.pointer (some ⟨w.heap.size, 0, none⟩), .pointer (some ⟨w.heap.size + 1, 0, none⟩)]) ∧ (w.alloc (.cells #[.slice A n c] 32)).alloc (.cells #[.int .i64 b] 3) = w' := by
  go_enter Try.func124, Try.ntmps124
  go_wp2_with fail
  go_ret
  exact ⟨rfl, rfl⟩
end Go.Proofs.Ytgdgajgfehjjdaa
