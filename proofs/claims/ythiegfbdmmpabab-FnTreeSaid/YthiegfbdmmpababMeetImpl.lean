/- What is proved here: MeetOf of the program. No conditions. -/
import Derived.Test.YthiegfbdmmpababMeetWalks
namespace Go.Proofs.Ythiegfbdmmpabab
open Go.RowKit

/-- The memory of MeetOf while it leaps: the array of jump pointers in block g, and the tree. -/
structure MeetMem (w0 wr : World) (g : Nat) (cs : Array Value) (A : Option Addr) (n : Nat) (ts : List Blk) : Prop where
  row : wr.heap[g]? = some (.cells cs 115 (0, 0))
  blk : BlksAt wr wr.heap.size A n ts
  bel : Below w0.heap.size w0 wr
  jmps : IsJumps ts cs
theorem MeetMem.up {w0 wr w' : World} {g : Nat} {cs : Array Value} {A : Option Addr} {n : Nat} {ts : List Blk} (h : MeetMem w0 wr g cs A n ts) (hb : Below wr.heap.size wr w') : MeetMem w0 w' g cs A n ts :=
  ⟨(hb.block g (Array.getElem?_eq_some_iff.1 h.row).1).trans h.row, h.blk.up hb, h.bel.trans (hb.mono h.bel.size), h.jmps⟩
theorem MeetMem.drewN {w0 wr : World} {g : Nat} {cs : Array Value} {A : Option Addr} {n : Nat} {ts : List Blk} (h : MeetMem w0 wr g cs A n ts) (k : Nat) : MeetMem w0 (wr.drewN k) g cs A n ts :=
  h.up (below_drewN (Below.refl _ _) k)
theorem MeetMem.cell {w0 wr : World} {g : Nat} {cs : Array Value} {A : Option Addr} {n : Nat} {ts : List Blk} (h : MeetMem w0 wr g cs A n ts) {a k : Nat} (ha : a < ts.length) (hk : k < 5) : wr.cell? ⟨g, a * 5 + k, none⟩ = some (.int .i64 (jmp ts a k)) := by
  rw [cell_of_row _ _ _ _ _ _ h.row, h.jmps.2 _ (by omega), jmpC_at ts hk]

theorem meet_raised {ts : List Blk} (h : Tree ts) {a b : Nat} (ha : a < ts.length) (hb : b < ts.length) : dep ts (anc ts a (dep ts a - dep ts b)) = dep ts (anc ts b (dep ts b - dep ts a)) ∧ meet ts a b = meet ts (anc ts a (dep ts a - dep ts b)) (anc ts b (dep ts b - dep ts a)) := by
  have da := dep_anc h ha (dep ts a - dep ts b) (Nat.sub_le _ _)
  have db := dep_anc h hb (dep ts b - dep ts a) (Nat.sub_le _ _)
  refine ⟨by omega, ?_⟩
  by_cases hle : dep ts b ≤ dep ts a
  · rw [show dep ts b - dep ts a = 0 by omega]
    exact meet_lift_a h hb _ _ ha (by omega)
  · rw [show dep ts a - dep ts b = 0 by omega]
    exact meet_lift_b h ha _ _ hb (by omega)

theorem raised_at (cs : Array Value) (ts : List Blk) (b u : Nat) (z : Int) (w : World) (hz : z = u) (hc : IsJumps ts cs) (ht : Tree ts) (hb : b < ts.length) (hu : u ≤ dep ts b) :
    Calls Try.prog 116 #[.agg cs, .int .i64 b, .int .i64 z] w (UpPost w (.int .i64 (anc ts b u))) := by
  subst hz; exact raised_any cs ts b u w hc ht hb hu
theorem rows_equal {ts : List Blk} {p q : Nat} {r : Bool} (h : rowEq ts p q = r) : ∀ W, (Op.equalIn 10000 114 (rowV ts p) (rowV ts q)).run Try.prog W = .ok r W := by
  intro W
  unfold rowV
  rw [row_equal, ← h]; rfl
theorem rowEq_zero {ts : List Blk} {p q : Nat} (h : rowEq ts p q = true) : jmp ts p 0 = jmp ts q 0 := by
  unfold rowEq at h
  rw [Bool.and_eq_true] at h
  exact eq_of_beq h.1

set_option maxHeartbeats 1600000 in
theorem implMeet_any (A : Option Addr) (n c : Nat) (ts : List Blk) (a b : Int) (w : World) (h : BlksAt w w.heap.size A n ts) (hn : n ≤ 1048576) :
    Calls Try.prog 55 #[.slice A n c, .int .i64 a, .int .i64 b] w (UpPost w (.tuple #[.int .i64 (meetR ts a b), .bool (abvOk ts a b)])) := by
  have hh := Lib.hid h; clear h
  cases hk : okK ts a
  · have hr := Lib.hid (show abvOk ts a b = false by unfold abvOk; rw [hk]; rfl)
    have hr2 := Lib.hid (show meetR ts a b = 0 by unfold meetR; rw [hr.out]; rfl)
    go_enter Try.func55, Try.ntmps55
    go_wp2_with (go_at_call 70; refine (isBlock_ok _ _ _ ts _ _ hh.out hn).mono ?_; rintro e w1 ⟨rfl, b1⟩; rw [hk])
    go_ret2
    exact ⟨ret_two hr2.out.symm hr.out.symm, b1⟩
  · cases hk2 : okK ts b
    · have hr := Lib.hid (show abvOk ts a b = false by unfold abvOk; rw [hk, hk2]; rfl)
      have hr2 := Lib.hid (show meetR ts a b = 0 by unfold meetR; rw [hr.out]; rfl)
      go_enter Try.func55, Try.ntmps55
      go_wp2_with fail
      refine (isBlock_ok _ _ _ ts _ _ hh.out hn).mono ?_
      rintro e w1 ⟨rfl, b1⟩
      rw [hk]
      have u1 := Lib.hid b1; have h1 := Lib.hid (hh.out.up b1); clear b1
      go_wp2_with fail
      refine (isBlock_ok _ _ _ ts _ _ h1.out hn).mono ?_
      rintro e w2 ⟨rfl, b2⟩
      rw [hk2]
      have u2 := Lib.hid (u1.out.trans (b2.mono u1.out.size)); clear b2
      go_wp2_with fail
      go_ret2
      exact ⟨ret_two hr2.out.symm hr.out.symm, u2.out⟩
    · obtain ⟨ht, x, rfl, hxl⟩ := okK_iff.1 hk
      obtain ⟨_, y, rfl, hyl⟩ := okK_iff.1 hk2
      have hr := Lib.hid (show abvOk ts x y = true by unfold abvOk; rw [hk, hk2]; rfl)
      have hr2 := Lib.hid (show meetR ts x y = meet ts x y by unfold meetR; rw [hr.out]; rfl)
      have hln := Lib.hid hh.out.1
      have hxn : x < n := by rw [← hln.out]; exact hxl
      have hyn : y < n := by rw [← hln.out]; exact hyl
      have hdx := dep_le ht hxl
      have hdy := dep_le ht hyl
      have hfew := ht.few
      have hz := (zero_of_info infoJumps).1
      have hmr := Lib.hid (meet_raised ht hxl hyl)
      have hmx1 : ∀ (ar : Array TypeId) (t : TypeId) (W : World), (Builtin.max_ ar t #[.int .i64 ((dep ts x : Int) - (dep ts y : Int)), .int .i64 0]).run Try.prog W = .ok (.int .i64 ((dep ts x - dep ts y : Nat) : Int)) W := fun ar t W => by
        rw [run_max_int2, show (if (0 : Int) > (dep ts x : Int) - (dep ts y : Int) then 0 else (dep ts x : Int) - (dep ts y : Int)) = ((dep ts x - dep ts y : Nat) : Int) by split <;> omega]
      have hmx2 : ∀ (ar : Array TypeId) (t : TypeId) (W : World), (Builtin.max_ ar t #[.int .i64 (-((dep ts x : Int) - (dep ts y : Int))), .int .i64 0]).run Try.prog W = .ok (.int .i64 ((dep ts y - dep ts x : Nat) : Int)) W := fun ar t W => by
        rw [run_max_int2, show (if (0 : Int) > -((dep ts x : Int) - (dep ts y : Int)) then 0 else -((dep ts x : Int) - (dep ts y : Int))) = ((dep ts y - dep ts x : Nat) : Int) by split <;> omega]
      have hmx3 : ∀ (ar : Array TypeId) (t : TypeId) (W : World), (Builtin.max_ ar t #[.int .i64 ((dep ts y : Int) - (dep ts x : Int)), .int .i64 0]).run Try.prog W = .ok (.int .i64 ((dep ts y - dep ts x : Nat) : Int)) W := fun ar t W => by
        rw [run_max_int2, show (if (0 : Int) > (dep ts y : Int) - (dep ts x : Int) then 0 else (dep ts y : Int) - (dep ts x : Int)) = ((dep ts y - dep ts x : Nat) : Int) by split <;> omega]
      go_enter Try.func55, Try.ntmps55
      go_wp2_with fail
      refine (isBlock_ok _ _ _ ts _ _ hh.out hn).mono ?_
      rintro e w1 ⟨rfl, b1⟩
      rw [hk]
      have u1 := Lib.hid b1; have h1 := Lib.hid (hh.out.up b1); clear b1
      go_wp2_with fail
      refine (isBlock_ok _ _ _ ts _ _ h1.out hn).mono ?_
      rintro e w2 ⟨rfl, b2⟩
      rw [hk2]
      have u2 := Lib.hid (u1.out.trans (b2.mono u1.out.size)); have h2 := Lib.hid (h1.out.up b2); clear b2
      go_wp2_with fail
      refine (leapsIn_any _ _ _ ts _ h2.out ht).mono ?_
      rintro e w3 ⟨cs, rfl, hj, hone, b3⟩
      have u3 := Lib.hid (u2.out.trans (b3.mono u2.out.size)); have h3 := Lib.hid (h2.out.up b3); clear b3
      have hsz := hj.1
      have hj' := Lib.hid hj; clear hj
      have hone' := Lib.hid hone; clear hone
      have hsz' := Lib.hid hsz; clear hsz
      go_wp2_with (refine wpList_store_row rfl 115 _ _ rfl w3.heap.size cs rfl rfl 115 (Array.replicate 120 (.int .i64 0)) (heap_alloc_new _ _) (by rw [hsz'.out]; kernel_rfl) (by rw [hsz'.out]; simp) hone'.out ?_)
      rw [World.setRow_alloc_new]
      have hmem := Lib.hid (show MeetMem w (w3.alloc (.cells cs 115)) w3.heap.size cs A n ts from ⟨heap_alloc_new _ _, h3.out.up ((Below.refl _ _).alloc (Nat.le_refl _) _), u3.out.alloc u3.out.size _, hj'.out⟩)
      generalize w3.alloc (.cells cs 115) = w4 at hmem ⊢
      generalize w3.heap.size = g at hmem ⊢
      clear u3 h3 h2 u2 h1 u1
      refine (depthIn_any _ _ _ ts x _ hmem.out.blk hn ht hxn).mono ?_
      rintro e w5 ⟨rfl, b5⟩
      have hm5 := Lib.hid (hmem.out.up b5); clear b5 hmem
      go_wp2_with fail
      refine (depthIn_any _ _ _ ts y _ hm5.out.blk hn ht hyn).mono ?_
      rintro e w6 ⟨rfl, b6⟩
      have hm6 := Lib.hid (hm5.out.up b6); clear b6 hm5
      go_wp2_with (refine wpList_load_row rfl 115 _ rfl g rfl 115 cs (0, 0) _ hm6.out.row Try.underlying115 rfl (by rw [hsz'.out]; kernel_rfl) ?_)
      refine (raised_at cs ts x (dep ts x - dep ts y) _ _ (by first | rfl | omega) hm6.out.jmps ht hxl (Nat.sub_le _ _)).mono ?_
      rintro e w7 ⟨rfl, b7⟩
      have hm7 := Lib.hid (hm6.out.up b7); clear b7 hm6
      go_wp2_with (refine wpList_load_row rfl 115 _ rfl g rfl 115 cs (0, 0) _ hm7.out.row Try.underlying115 rfl (by rw [hsz'.out]; kernel_rfl) ?_)
      refine (raised_at cs ts y (dep ts y - dep ts x) _ _ (by first | rfl | omega) hm7.out.jmps ht hyl (Nat.sub_le _ _)).mono ?_
      rintro e w8 ⟨rfl, b8⟩
      have hm8 := Lib.hid (hm7.out.up b8); clear b8 hm7
      have hX := anc_lt ht hxl (dep ts x - dep ts y)
      have hY := anc_lt ht hyl (dep ts y - dep ts x)
      have hD := Lib.hid hmr.out.1
      have hM := Lib.hid hmr.out.2
      clear hmr hmx1 hmx2 hmx3 hz hk hk2 hh hdx hdy
      generalize anc ts x (dep ts x - dep ts y) = X at hX hD hM ⊢
      generalize anc ts y (dep ts y - dep ts x) = Y at hY hD hM ⊢
      by_cases hXY : X = Y
      · subst hXY
        have hq : ((X : Int) == (X : Int)) = true := by simp
        go_wp2_with fail
        go_ret2
        exact ⟨ret_two (by rw [hr2.out, hM.out, meet_here (abv_self ts X)]) hr.out.symm, hm8.out.bel⟩
      · have hq : ((X : Int) == (Y : Int)) = false := by simp; omega
        have hXY' := Lib.hid hXY; clear hXY
        go_wp2_with fail
        clear hq
        go_loopw [1, 2, 10] (fun a b _ wr => ∃ p q : Nat, a = .int .i64 p ∧ b = .int .i64 q ∧ p < ts.length ∧ q < ts.length ∧ Hid (dep ts p = dep ts q) ∧ Hid (p ≠ q) ∧ Hid (meet ts p q = meet ts x y) ∧ Hid (MeetMem w wr g cs A n ts)) (fun a _ _ _ => (intOf a).toNat)
        case atStart => exact ⟨X, Y, rfl, rfl, hX, hY, hD, hXY', Lib.hid hM.out.symm, hm8⟩
        case round =>
          obtain ⟨p, q, rfl, rfl, hp, hq, hd, hne, hm, hmem⟩ := hrel
          have hpn : p < n := by rw [← hln.out]; exact hp
          have a0 := hmem.out.cell hp (k := 0) (by omega)
          have a1 := hmem.out.cell hp (k := 1) (by omega)
          have a2 := hmem.out.cell hp (k := 2) (by omega)
          have a3 := hmem.out.cell hp (k := 3) (by omega)
          have a4 := hmem.out.cell hp (k := 4) (by omega)
          have b0 := hmem.out.cell hq (k := 0) (by omega)
          have b1 := hmem.out.cell hq (k := 1) (by omega)
          have b2 := hmem.out.cell hq (k := 2) (by omega)
          have b3 := hmem.out.cell hq (k := 3) (by omega)
          have b4 := hmem.out.cell hq (k := 4) (by omega)
          rw [Nat.add_zero] at a0 b0
          cases hre : rowEq ts p q
          · have heq := rows_equal hre
            unfold rowV at heq
            have hre' := Lib.hid hre; clear hre
            go_wp2_with fail
            go_quiet (fail)
            go_wp2_with fail
            clear heq
            go_region_with (go_at_call 117; refine (split_any ts p q _ hre'.out).mono ?_; rintro e w9 ⟨k, rfl, hk5, hdif, b9⟩; have hm9 := Lib.hid (hmem.out.up (show Below wr.heap.size wr w9 from ⟨b9.os, b9.tape, b9.output, b9.size, b9.block⟩)); have hdif' := Lib.hid hdif; clear b9 hdif)
            all_goals
              obtain ⟨x', y', e1, e2, l1, l2, hd2, hne2, hm2⟩ := meet_leap ht hp hq hd.out hdif'.out
              have c1 := hm9.out.cell hp hk5
              have c2 := hm9.out.cell hq hk5
              rw [e1] at c1
              rw [e2] at c2
              have hd2' := Lib.hid hd2
              have hne2' := Lib.hid hne2
              have hm2' := Lib.hid (hm2.symm.trans hm.out)
              clear hd2 hne2 hm2 e1 e2 hdif' a0 a1 a2 a3 a4 b0 b1 b2 b3 b4
              go_simp
              go_wp2_with fail
              go_quiet (fail)
              go_wp2_with fail
              go_roundw
              case rel => exact ⟨x', y', rfl, rfl, by omega, by omega, hd2', hne2', hm2', Lib.hid (hm9.out.drewN _)⟩
              case measure => simp [intOf]; omega
          · have heq := rows_equal hre
            unfold rowV at heq
            have hend := Lib.hid (meet_end ht hp hq hd.out hne.out (rowEq_zero hre))
            obtain ⟨bb, off, e, hbb, hcs⟩ := hmem.out.blk.at (by omega)
            have d0 := (hcs p hpn).1
            have hpar := Lib.hid (show (ts[p]?.getD (0, 0)).1 = parZ ts p from rfl)
            rw [hpar.out] at d0
            subst e
            clear hcs
            go_wp2_with fail
            go_quiet (fail)
            go_wp2_with fail
            go_ret2
            exact ⟨ret_two (by rw [hr2.out, ← hm.out, hend.out]) hr.out.symm, below_drewN hmem.out.bel _⟩
end Go.Proofs.Ythiegfbdmmpabab
