/- What is proved here: what the laws' comparison of votes returns at two slices that hold the same votes. No conditions but lengths. -/
import Derived.Test.YtlobjfipefibaabVotes
import Derived.BigQuiet
import Derived.Test.YtlobjfipefibaabWeightWithinSpec
import Derived.Test.YtlobjfipefibaabHeadWithinSpec
import Derived.Test.YtlobjfipefibaabForFacts
import Derived.Test.YtlobjfipefibaabDrawWin
import Derived.Test.YtlobjfipefibaabTrimSpec
namespace Go.Proofs.Ytlobjfipefibaab
open Go.RowKit

set_option maxRecDepth 100000 in
set_option maxHeartbeats 800000 in
theorem sameVotes_any (A A' : Option Addr) (n n' c c' B : Nat) (vs : List Vt) (w : World) (h : VotesAt w B A n vs) (h' : VotesAt w B A' n' vs) (hn : n ≤ 1048576) :
    Calls Try.prog 14 #[.slice A n c, .slice A' n' c'] w fun e w' => e = .returned (.bool true) ∧ ∃ m, w' = w.drewN m := by
  have he : n = n' := h.1.symm.trans h'.1
  subst he
  have hr := Lib.hid h; clear h
  have hr2 := Lib.hid h'; clear h'
  have hne : ((n : Int) != (n : Int)) = false := by simp
  go_enter Try.func14, Try.ntmps14
  go_wp2_with fail
  go_loopw [13] (fun i wr => ∃ k : Nat, k ≤ n ∧ i = .int .i64 k ∧ ∃ m, wr = w.drewN m) (fun i _ => n - (intOf i).toNat)
  case atStart => exact ⟨0, Nat.zero_le _, rfl, 0, rfl⟩
  case round =>
    obtain ⟨k, hk, rfl, m, rfl⟩ := hrel
    by_cases hlt : k < n
    · obtain ⟨b, off, rfl, _, c0, c1, c2⟩ := hr.out.2 k hlt
      obtain ⟨b', off', rfl, _, d0, d1, d2⟩ := hr2.out.2 k hlt
      generalize (getV vs k).1 = x1 at c0 d0
      generalize (getV vs k).2.1 = x2 at c1 d1
      generalize (getV vs k).2.2 = x3 at c2 d2
      go_wp2_with fail
      go_quiet (fail)
      go_wp2_with fail
      go_roundw
      case rel => exact ⟨k + 1, by omega, by go_num, _, rfl⟩
      case measure => simp [intOf]; omega
    · go_wp2_with fail
      go_ret
      exact ⟨rfl, _, rfl⟩
end Go.Proofs.Ytlobjfipefibaab

/- What is proved here: plain facts about windows of votes: the weight counted is at most the whole stake; a window twice is the window once; with all slots kept the window is what is not new. No conditions. -/
namespace Go.Proofs.Ytlobjfipefibaab
open Go.RowKit

theorem sumT_succ (xs : List Int) : ∀ k, k < xs.length → sumL (xs.take (k + 1)) = sumL (xs.take k) + getI xs k := by
  induction xs with
  | nil => intro k hk; simp at hk
  | cons a xs ih =>
    intro k hk
    cases k with
    | zero => simp [sumL, getI]
    | succ k =>
      have := ih k (by simpa using hk)
      have e : getI (a :: xs) (k + 1) = getI xs k := by unfold getI; simp only [List.getElem?_cons_succ]
      rw [e]
      simp only [List.take_succ_cons, sumL, List.sum_cons] at this ⊢
      omega
theorem sumT_mono {xs : List Int} (hb : Bds xs) : ∀ d k, k + d ≤ xs.length → sumL (xs.take k) ≤ sumL (xs.take (k + d))
  | 0, k, _ => Int.le_refl _
  | d + 1, k, h => by
    have h1 := sumT_mono hb d k (by omega)
    have h2 := sumT_succ xs (k + d) (by omega)
    have h3 := (hb (k + d) (by omega)).1
    rw [show k + (d + 1) = k + d + 1 by omega, h2]
    unfold getI
    omega
theorem totK_le {n : Nat} {ss : List Int} {l : List Vt} (hv : VotesOf n ss.length l) (hu : WhoUp l) (hb : Bds ss) : ∀ k, k ≤ l.length → totK ss l k ≤ sumL (ss.take (if k = 0 then 0 else (getV l (k - 1)).1.toNat + 1)) := by
  intro k
  induction k with
  | zero => intro _; simp [totK, sumL]
  | succ k ih =>
    intro hk
    have h1 := ih (by omega)
    obtain ⟨⟨i, hi, hin⟩, _⟩ := hv k (by omega)
    rw [if_neg (by omega), Nat.add_sub_cancel, totK, hi, Int.toNat_natCast, sumT_succ ss i hin]
    by_cases h0 : k = 0
    · subst h0
      rw [if_pos rfl] at h1
      have := sumT_mono hb i 0 (by omega)
      rw [Nat.zero_add] at this
      omega
    · rw [if_neg h0] at h1
      obtain ⟨⟨j, hj, hjn⟩, _⟩ := hv (k - 1) (by omega)
      have hlt : (getV l (k - 1)).1 < (getV l k).1 := by
        have h9 := List.pairwise_iff_getElem.1 hu (k - 1) k (by simp; omega) (by simp; omega) (by omega)
        simp only [List.getElem_map] at h9
        unfold getV
        rw [List.getElem?_eq_getElem (show k - 1 < l.length by omega), List.getElem?_eq_getElem (show k < l.length by omega)]
        exact h9
      rw [hj, hi] at hlt
      rw [hj, Int.toNat_natCast] at h1
      have := sumT_mono hb (i - (j + 1)) (j + 1) (by omega)
      rw [show j + 1 + (i - (j + 1)) = i by omega] at this
      omega
theorem totK_all {ts : List Blk} {ss : List Int} {vs : List Vt} (h : poolOk ts ss vs = true) : totK ss (latList vs) (latList vs).length ≤ sumL ss := by
  have hb : Bds ss := bds_of_good (poolOk_iff.1 h).1.1.2
  have hv := lat_of h
  refine Int.le_trans (totK_le hv (lat_up h) hb _ (Nat.le_refl _)) ?_
  generalize hq : (if (latList vs).length = 0 then 0 else (getV (latList vs) ((latList vs).length - 1)).1.toNat + 1) = q
  have hqs : q ≤ ss.length := by
    by_cases h0 : (latList vs).length = 0
    · rw [if_pos h0] at hq; omega
    · rw [if_neg h0] at hq
      obtain ⟨⟨i, hi, hin⟩, _⟩ := hv ((latList vs).length - 1) (by omega)
      rw [hi, Int.toNat_natCast] at hq; omega
  have := sumT_mono hb (ss.length - q) q (by omega)
  rw [show q + (ss.length - q) = ss.length by omega, List.take_length] at this
  exact this
/-- A window's head is that of the pool that the window leaves. -/
theorem headW_trim {ts : List Blk} {ss : List Int} {vs : List Vt} {now keep : Int} (h : trimOK ts ss vs now keep = true) : trimOK ts ss (trimR ts ss vs now keep) now keep = true ∧ headWR ts ss (trimR ts ss vs now keep) now keep = headWR ts ss vs now keep := by
  have ht : trimR ts ss vs now keep = vs.filter (trimP now keep) := by unfold trimR; rw [if_pos h]
  obtain ⟨h1, h2, h3⟩ := trimOK_iff.1 h
  have hp : poolOk ts ss (vs.filter (trimP now keep)) = true := poolOk_filter h1 _
  have hk : trimOK ts ss (vs.filter (trimP now keep)) now keep = true := trimOK_iff.2 ⟨hp, h2, h3⟩
  rw [ht]
  refine ⟨hk, ?_⟩
  unfold headWR
  rw [if_pos hk, if_pos h]
  have e : actR ts ss (vs.filter (trimP now keep)) now keep = actR ts ss vs now keep := by
    unfold actR
    have e2 : (vs.filter (trimP now keep)).filter (trimP now keep) = vs.filter (trimP now keep) := by
      rw [List.filter_filter]
      exact List.filter_congr fun v _ => by simp
    rw [if_pos hk, if_pos h, ← wit_act, ← wit_act, e2]
  rw [e]
/-- With all slots kept the window is what is not new. -/
theorem headW_all {ts : List Blk} {ss : List Int} {vs : List Vt} {now keep : Int} (h : trimOK ts ss vs now keep = true) (hk : now ≤ keep) : finOK ts ss vs now = true ∧ poolOk ts ss (finR ts ss vs now) = true ∧ headPR ts ss (finR ts ss vs now) = headWR ts ss vs now keep := by
  obtain ⟨h1, h2, h3⟩ := trimOK_iff.1 h
  have hf : finOK ts ss vs now = true := finOK_iff.2 ⟨h1, h2⟩
  have e : finR ts ss vs now = actR ts ss vs now keep := by
    unfold finR actR
    rw [if_pos hf, if_pos h]
    refine List.filter_congr fun v hv => ?_
    have := slot_in h1 hv
    unfold finP witP
    rw [show decide (now - keep ≤ v.2.1) = true from decide_eq_true (by omega), Bool.true_and]
  refine ⟨hf, by rw [e]; exact act_pool h, ?_⟩
  unfold headWR
  rw [if_pos h, e]
end Go.Proofs.Ytlobjfipefibaab

/- What is proved here: the law FnWithin returns true at every two slices of bytes, and writes nothing that was there. No conditions. Written by mk/mkwithinlaw.py. -/
namespace Go.Proofs.Ytlobjfipefibaab
open Go.RowKit

set_option maxHeartbeats 6400000 in
set_option maxRecDepth 100000 in
theorem lawWithin (A A' : Option Addr) (n n' c c' : Nat) (w : World) (h : BytesIn w A n) (h' : BytesIn w A' n') (hr : n ≤ 140737488351232) (hr' : n' ≤ 140737488351232) :
    Calls Try.prog 7 #[.slice A n c, .slice A' n' c'] w fun e w' => e = .returned (.bool true) ∧ Below w.heap.size w w' := by
  by_cases hlen : n + n' ≤ 1048576
  · have hlen' : ¬ (1048576 : Int) < (n : Int) + (n' : Int) := by omega
    have h2' := Lib.hid h'
    clear h'
    go_enter Try.func7, Try.ntmps7
    go_wp2_with fail
    refine (drawHeadWithin_any A n c w h (by omega)).mono ?_
    rintro e w1 ⟨A1, n1, c1, ts, A2, n2, c2, ss, V, m, d, vs, now, keep, rfl, P1, _, b1⟩
    have hn1 : n1 ≤ 1048576 := by have := P1.hn; omega
    have hn2 : n2 ≤ 1048576 := by have := P1.hn'; omega
    have hm : m ≤ 1048576 := by have := P1.hm; omega
    have kx := bx_below w1 (.cells #[.slice V m d] 29)
    have x := Lib.hid (bx_row w1 (.slice V m d) 29)
    have p := Lib.hid (P1.up kx)
    have u := Lib.hid (b1.trans (kx.mono b1.size))
    have hx := x.out.cell (i := 0) (by omega)
    clear P1 b1 kx h
    obtain ⟨H, hH⟩ : ∃ H, Hid (headWR ts ss vs now keep = H) := ⟨_, Lib.hid rfl⟩
    obtain ⟨W, hW⟩ : ∃ W, Hid (wtWR ts ss vs now keep = W) := ⟨_, Lib.hid rfl⟩
    have hq1 : (H != H) = false := by simp
    have hq2 : (W != W) = false := by simp
    cases hzz : trimOK ts ss vs now keep
    · have hz := Lib.hid hzz
      clear hzz
      go_wp2_with fail
      refine (implHeadW_any A1 n1 c1 ts A2 n2 c2 ss V m d vs now keep _ p.out.blk p.out.int p.out.vot hn1 hn2 hm).mono ?_
      rintro e w2 ⟨rfl, b2⟩
      rw [hH.out, hz.out]
      replace p := Lib.hid (p.out.up b2); replace u := Lib.hid (u.out.trans (b2.mono u.out.size))
      replace x := Lib.hid (rowIs_below x.out b2 x.out.lt)
      clear hx
      have hx := x.out.cell (i := 0) (by omega)
      clear b2
      go_wp2_with fail
      refine (specHeadW_any A1 n1 c1 ts A2 n2 c2 ss V m d vs now keep _ p.out.blk p.out.int p.out.vot hn1 hn2 hm).mono ?_
      rintro e w3 ⟨rfl, b3⟩
      rw [hH.out, hz.out]
      replace p := Lib.hid (p.out.up b3); replace u := Lib.hid (u.out.trans (b3.mono u.out.size))
      replace x := Lib.hid (rowIs_below x.out b3 x.out.lt)
      clear hx
      have hx := x.out.cell (i := 0) (by omega)
      clear b3
      go_wp2_with fail
      refine (implWeightW_any A1 n1 c1 ts A2 n2 c2 ss V m d vs now keep _ p.out.blk p.out.int p.out.vot hn1 hn2 hm).mono ?_
      rintro e w4 ⟨rfl, b4⟩
      rw [hW.out, hz.out]
      replace p := Lib.hid (p.out.up b4); replace u := Lib.hid (u.out.trans (b4.mono u.out.size))
      replace x := Lib.hid (rowIs_below x.out b4 x.out.lt)
      clear hx
      have hx := x.out.cell (i := 0) (by omega)
      clear b4
      go_wp2_with fail
      refine (specWeightW_any A1 n1 c1 ts A2 n2 c2 ss V m d vs now keep _ p.out.blk p.out.int p.out.vot hn1 hn2 hm).mono ?_
      rintro e w5 ⟨rfl, b5⟩
      rw [hW.out, hz.out]
      replace p := Lib.hid (p.out.up b5); replace u := Lib.hid (u.out.trans (b5.mono u.out.size))
      replace x := Lib.hid (rowIs_below x.out b5 x.out.lt)
      clear hx
      have hx := x.out.cell (i := 0) (by omega)
      clear b5
      clear hx x
      go_wp2_with fail
      refine (drawTrim_any A' n' c' _ (h2'.out.below u.out) (by omega)).mono ?_
      clear p hH hW hz hq1 hq2 hn1 hn2 hm
      rintro e w11 ⟨A1, n1, c1, ts, A2, n2, c2, ss, V, m, d, vs, now, keep, rfl, P1, _, b1⟩
      have hn1 : n1 ≤ 1048576 := by have := P1.hn; omega
      have hn2 : n2 ≤ 1048576 := by have := P1.hn'; omega
      have hm : m ≤ 1048576 := by have := P1.hm; omega
      have kx := bx_below w11 (.cells #[.slice V m d] 29)
      have x := Lib.hid (bx_row w11 (.slice V m d) 29)
      have p := Lib.hid (P1.up kx)
      replace u := Lib.hid (u.out.trans ((b1.trans (kx.mono b1.size)).mono u.out.size))
      have hx := x.out.cell (i := 0) (by omega)
      have htl := Lib.hid (trimR_len ts ss vs now keep)
      clear P1 b1 kx
      obtain ⟨ok, hok⟩ : ∃ b, Hid (trimOK ts ss vs now keep = b) := ⟨_, Lib.hid rfl⟩
      have hq3 : (ok != ok) = false := by simp
      go_wp2_with fail
      refine (implTrim_any A1 n1 c1 ts A2 n2 c2 ss V m d vs now keep _ p.out.blk p.out.int p.out.vot hn1 hn2 hm).mono ?_
      rintro e w12 ⟨A3, n3, c3, rfl, o3, b12⟩
      rw [hok.out]
      have k12 := bx_below w12 (.cells #[.slice A3 n3 c3] 29)
      have b13 := b12.trans (k12.mono b12.size)
      have y := Lib.hid (bx_row w12 (.slice A3 n3 c3) 29)
      have hy := y.out.cell (i := 0) (by omega)
      have v3 := Lib.hid (o3.votes.up k12)
      have hn3 : n3 ≤ 1048576 := by have := o3.len; have := htl.out; omega
      replace p := Lib.hid (p.out.up b13); replace u := Lib.hid (u.out.trans (b13.mono u.out.size))
      replace x := Lib.hid (rowIs_below x.out b13 x.out.lt)
      clear hx
      have hx := x.out.cell (i := 0) (by omega)
      clear b12 b13 k12 o3
      go_wp2_with fail
      refine (specTrim_any A1 n1 c1 ts A2 n2 c2 ss V m d vs now keep _ p.out.blk p.out.int p.out.vot hn1 hn2 hm).mono ?_
      rintro e w14 ⟨A4, n4, c4, rfl, o4, b14⟩
      rw [hok.out]
      have k14 := bx_below w14 (.cells #[.slice A4 n4 c4] 29)
      have b15 := b14.trans (k14.mono b14.size)
      have z := Lib.hid (bx_row w14 (.slice A4 n4 c4) 29)
      have hz4 := z.out.cell (i := 0) (by omega)
      have v4 := Lib.hid (o4.votes.up k14)
      replace v3 := Lib.hid (v3.out.up b15)
      replace p := Lib.hid (p.out.up b15); replace u := Lib.hid (u.out.trans (b15.mono u.out.size))
      replace x := Lib.hid (rowIs_below x.out b15 x.out.lt)
      replace y := Lib.hid (rowIs_below y.out b15 y.out.lt)
      clear hx hy
      have hx := x.out.cell (i := 0) (by omega)
      have hy := y.out.cell (i := 0) (by omega)
      clear b14 b15 k14 o4
      go_wp2_with fail
      refine (sameVotes_any A3 A4 n3 n4 c3 c4 _ (trimR ts ss vs now keep) _ v3.out v4.out hn3).mono ?_
      rintro e w16 ⟨rfl, dr, hw16⟩
      have b16 : Below (w14.alloc (.cells #[.slice A4 n4 c4] 29)).heap.size (w14.alloc (.cells #[.slice A4 n4 c4] 29)) w16 := by rw [hw16]; exact below_drewN (Below.refl _ _) dr
      replace v3 := Lib.hid (v3.out.up b16)
      replace p := Lib.hid (p.out.up b16); replace u := Lib.hid (u.out.trans (b16.mono u.out.size))
      replace x := Lib.hid (rowIs_below x.out b16 x.out.lt)
      replace y := Lib.hid (rowIs_below y.out b16 y.out.lt)
      clear hx hy
      have hx := x.out.cell (i := 0) (by omega)
      have hy := y.out.cell (i := 0) (by omega)
      clear b16 hw16 hz4 z v4
      cases ok
      · go_wp2_with fail
        go_ret
        exact ⟨rfl, u.out⟩
      · obtain ⟨ht1, ht2⟩ := headW_trim hok.out
        have g1 := Lib.hid ht1; have g2 := Lib.hid ht2
        clear ht1 ht2
        go_wp2_with fail
        refine (implHeadW_any A1 n1 c1 ts A2 n2 c2 ss V m d vs now keep _ p.out.blk p.out.int p.out.vot hn1 hn2 hm).mono ?_
        rintro e w17 ⟨rfl, b17⟩
        rw [hok.out]
        replace v3 := Lib.hid (v3.out.up b17)
        replace p := Lib.hid (p.out.up b17); replace u := Lib.hid (u.out.trans (b17.mono u.out.size))
        replace x := Lib.hid (rowIs_below x.out b17 x.out.lt)
        replace y := Lib.hid (rowIs_below y.out b17 y.out.lt)
        clear hx hy
        have hx := x.out.cell (i := 0) (by omega)
        have hy := y.out.cell (i := 0) (by omega)
        clear b17
        go_wp2_with fail
        refine (implHeadW_any A1 n1 c1 ts A2 n2 c2 ss A3 n3 c3 (trimR ts ss vs now keep) now keep _ p.out.blk p.out.int v3.out hn1 hn2 hn3).mono ?_
        rintro e w18 ⟨rfl, b18⟩
        rw [g1.out, g2.out]
        replace u := Lib.hid (u.out.trans (b18.mono u.out.size))
        have hq5 : (headWR ts ss vs now keep == headWR ts ss vs now keep) = true := by simp
        clear hx hy hok
        generalize headWR ts ss vs now keep = G at *
        go_wp2_with fail
        go_ret
        exact ⟨rfl, u.out⟩
    · have hz := Lib.hid hzz
      clear hzz
      go_wp2_with fail
      refine (implHeadW_any A1 n1 c1 ts A2 n2 c2 ss V m d vs now keep _ p.out.blk p.out.int p.out.vot hn1 hn2 hm).mono ?_
      rintro e w2 ⟨rfl, b2⟩
      rw [hH.out, hz.out]
      replace p := Lib.hid (p.out.up b2); replace u := Lib.hid (u.out.trans (b2.mono u.out.size))
      replace x := Lib.hid (rowIs_below x.out b2 x.out.lt)
      clear hx
      have hx := x.out.cell (i := 0) (by omega)
      clear b2
      go_wp2_with fail
      refine (specHeadW_any A1 n1 c1 ts A2 n2 c2 ss V m d vs now keep _ p.out.blk p.out.int p.out.vot hn1 hn2 hm).mono ?_
      rintro e w3 ⟨rfl, b3⟩
      rw [hH.out, hz.out]
      replace p := Lib.hid (p.out.up b3); replace u := Lib.hid (u.out.trans (b3.mono u.out.size))
      replace x := Lib.hid (rowIs_below x.out b3 x.out.lt)
      clear hx
      have hx := x.out.cell (i := 0) (by omega)
      clear b3
      go_wp2_with fail
      refine (implWeightW_any A1 n1 c1 ts A2 n2 c2 ss V m d vs now keep _ p.out.blk p.out.int p.out.vot hn1 hn2 hm).mono ?_
      rintro e w4 ⟨rfl, b4⟩
      rw [hW.out, hz.out]
      replace p := Lib.hid (p.out.up b4); replace u := Lib.hid (u.out.trans (b4.mono u.out.size))
      replace x := Lib.hid (rowIs_below x.out b4 x.out.lt)
      clear hx
      have hx := x.out.cell (i := 0) (by omega)
      clear b4
      go_wp2_with fail
      refine (specWeightW_any A1 n1 c1 ts A2 n2 c2 ss V m d vs now keep _ p.out.blk p.out.int p.out.vot hn1 hn2 hm).mono ?_
      rintro e w5 ⟨rfl, b5⟩
      rw [hW.out, hz.out]
      replace p := Lib.hid (p.out.up b5); replace u := Lib.hid (u.out.trans (b5.mono u.out.size))
      replace x := Lib.hid (rowIs_below x.out b5 x.out.lt)
      clear hx
      have hx := x.out.cell (i := 0) (by omega)
      clear b5
      have hz1 := hz.out
      obtain ⟨h1, h2, h3⟩ := trimOK_iff.1 hz1
      have hf : finOK ts ss vs now = true := finOK_iff.2 ⟨h1, h2⟩
      have hp2 : poolOk ts ss (finR ts ss vs now) = true := by unfold finR; rw [if_pos hf]; exact poolOk_filter h1 _
      have hWs : W ≤ sumL ss := by rw [← hW.out]; unfold wtWR; rw [if_pos hz1]; exact totK_all (act_pool hz1)
      have hWs' : ¬ sumL ss < W := by omega
      have hbd := Lib.hid (bds_of_good (poolOk_iff.1 h1).1.1.2)
      have hfl := finR_len ts ss vs now
      have hall := Lib.hid (fun (hk : now ≤ keep) => (headW_all hz1 hk).2.2)
      have hf' := Lib.hid hf; have hp2' := Lib.hid hp2
      clear hz1 h1 h2 h3 hf hp2
      go_wp2_with fail
      refine (implFinal_any A1 n1 c1 ts A2 n2 c2 ss V m d vs now _ p.out.blk p.out.int p.out.vot hn1 hn2 hm).mono ?_
      rintro e w6 ⟨A3, n3, c3, rfl, o3, b6⟩
      rw [hf'.out]
      have k6 := bx_below w6 (.cells #[.slice A3 n3 c3] 29)
      have b7 := b6.trans (k6.mono b6.size)
      have y := Lib.hid (bx_row w6 (.slice A3 n3 c3) 29)
      have hy := y.out.cell (i := 0) (by omega)
      have v3 := Lib.hid (o3.votes.up k6)
      have hn3 : n3 ≤ 1048576 := by have := o3.len; omega
      replace p := Lib.hid (p.out.up b7); replace u := Lib.hid (u.out.trans (b7.mono u.out.size))
      replace x := Lib.hid (rowIs_below x.out b7 x.out.lt)
      clear hx
      have hx := x.out.cell (i := 0) (by omega)
      clear b6 b7 k6 o3
      go_wp2_with fail
      refine (implHeadOf_any A1 n1 c1 ts A2 n2 c2 ss A3 n3 c3 (finR ts ss vs now) _ p.out.blk p.out.int v3.out hn1 hn2 hn3).mono ?_
      rintro e w8 ⟨rfl, b8⟩
      rw [hp2'.out]
      replace p := Lib.hid (p.out.up b8); replace u := Lib.hid (u.out.trans (b8.mono u.out.size))
      replace x := Lib.hid (rowIs_below x.out b8 x.out.lt)
      clear hx
      have hx := x.out.cell (i := 0) (by omega)
      clear b8 hy y v3
      obtain ⟨G, hG⟩ : ∃ G, Hid (headPR ts ss (finR ts ss vs now) = G) := ⟨_, Lib.hid rfl⟩
      rw [hG.out]
      by_cases hk : now ≤ keep
      · have hGH : G = H := by rw [← hG.out, ← hH.out]; exact hall.out hk
        subst hGH
        clear hG hall
        go_wp2_with fail
        refine (lawSum_any A2 n2 c2 _ ss _ p.out.int hn2 hbd.out).mono ?_
        rintro e w9 ⟨rfl, rfl⟩
        clear hbd hf' hp2' hfl hWs
        clear hx x
        go_wp2_with fail
        refine (drawTrim_any A' n' c' _ (h2'.out.below u.out) (by omega)).mono ?_
        clear p hH hW hz hq1 hq2 hn1 hn2 hm
        rintro e w11 ⟨A1, n1, c1, ts, A2, n2, c2, ss, V, m, d, vs, now, keep, rfl, P1, _, b1⟩
        have hn1 : n1 ≤ 1048576 := by have := P1.hn; omega
        have hn2 : n2 ≤ 1048576 := by have := P1.hn'; omega
        have hm : m ≤ 1048576 := by have := P1.hm; omega
        have kx := bx_below w11 (.cells #[.slice V m d] 29)
        have x := Lib.hid (bx_row w11 (.slice V m d) 29)
        have p := Lib.hid (P1.up kx)
        replace u := Lib.hid (u.out.trans ((b1.trans (kx.mono b1.size)).mono u.out.size))
        have hx := x.out.cell (i := 0) (by omega)
        have htl := Lib.hid (trimR_len ts ss vs now keep)
        clear P1 b1 kx
        obtain ⟨ok, hok⟩ : ∃ b, Hid (trimOK ts ss vs now keep = b) := ⟨_, Lib.hid rfl⟩
        have hq3 : (ok != ok) = false := by simp
        go_wp2_with fail
        refine (implTrim_any A1 n1 c1 ts A2 n2 c2 ss V m d vs now keep _ p.out.blk p.out.int p.out.vot hn1 hn2 hm).mono ?_
        rintro e w12 ⟨A3, n3, c3, rfl, o3, b12⟩
        rw [hok.out]
        have k12 := bx_below w12 (.cells #[.slice A3 n3 c3] 29)
        have b13 := b12.trans (k12.mono b12.size)
        have y := Lib.hid (bx_row w12 (.slice A3 n3 c3) 29)
        have hy := y.out.cell (i := 0) (by omega)
        have v3 := Lib.hid (o3.votes.up k12)
        have hn3 : n3 ≤ 1048576 := by have := o3.len; have := htl.out; omega
        replace p := Lib.hid (p.out.up b13); replace u := Lib.hid (u.out.trans (b13.mono u.out.size))
        replace x := Lib.hid (rowIs_below x.out b13 x.out.lt)
        clear hx
        have hx := x.out.cell (i := 0) (by omega)
        clear b12 b13 k12 o3
        go_wp2_with fail
        refine (specTrim_any A1 n1 c1 ts A2 n2 c2 ss V m d vs now keep _ p.out.blk p.out.int p.out.vot hn1 hn2 hm).mono ?_
        rintro e w14 ⟨A4, n4, c4, rfl, o4, b14⟩
        rw [hok.out]
        have k14 := bx_below w14 (.cells #[.slice A4 n4 c4] 29)
        have b15 := b14.trans (k14.mono b14.size)
        have z := Lib.hid (bx_row w14 (.slice A4 n4 c4) 29)
        have hz4 := z.out.cell (i := 0) (by omega)
        have v4 := Lib.hid (o4.votes.up k14)
        replace v3 := Lib.hid (v3.out.up b15)
        replace p := Lib.hid (p.out.up b15); replace u := Lib.hid (u.out.trans (b15.mono u.out.size))
        replace x := Lib.hid (rowIs_below x.out b15 x.out.lt)
        replace y := Lib.hid (rowIs_below y.out b15 y.out.lt)
        clear hx hy
        have hx := x.out.cell (i := 0) (by omega)
        have hy := y.out.cell (i := 0) (by omega)
        clear b14 b15 k14 o4
        go_wp2_with fail
        refine (sameVotes_any A3 A4 n3 n4 c3 c4 _ (trimR ts ss vs now keep) _ v3.out v4.out hn3).mono ?_
        rintro e w16 ⟨rfl, dr, hw16⟩
        have b16 : Below (w14.alloc (.cells #[.slice A4 n4 c4] 29)).heap.size (w14.alloc (.cells #[.slice A4 n4 c4] 29)) w16 := by rw [hw16]; exact below_drewN (Below.refl _ _) dr
        replace v3 := Lib.hid (v3.out.up b16)
        replace p := Lib.hid (p.out.up b16); replace u := Lib.hid (u.out.trans (b16.mono u.out.size))
        replace x := Lib.hid (rowIs_below x.out b16 x.out.lt)
        replace y := Lib.hid (rowIs_below y.out b16 y.out.lt)
        clear hx hy
        have hx := x.out.cell (i := 0) (by omega)
        have hy := y.out.cell (i := 0) (by omega)
        clear b16 hw16 hz4 z v4
        cases ok
        · go_wp2_with fail
          go_ret
          exact ⟨rfl, u.out⟩
        · obtain ⟨ht1, ht2⟩ := headW_trim hok.out
          have g1 := Lib.hid ht1; have g2 := Lib.hid ht2
          clear ht1 ht2
          go_wp2_with fail
          refine (implHeadW_any A1 n1 c1 ts A2 n2 c2 ss V m d vs now keep _ p.out.blk p.out.int p.out.vot hn1 hn2 hm).mono ?_
          rintro e w17 ⟨rfl, b17⟩
          rw [hok.out]
          replace v3 := Lib.hid (v3.out.up b17)
          replace p := Lib.hid (p.out.up b17); replace u := Lib.hid (u.out.trans (b17.mono u.out.size))
          replace x := Lib.hid (rowIs_below x.out b17 x.out.lt)
          replace y := Lib.hid (rowIs_below y.out b17 y.out.lt)
          clear hx hy
          have hx := x.out.cell (i := 0) (by omega)
          have hy := y.out.cell (i := 0) (by omega)
          clear b17
          go_wp2_with fail
          refine (implHeadW_any A1 n1 c1 ts A2 n2 c2 ss A3 n3 c3 (trimR ts ss vs now keep) now keep _ p.out.blk p.out.int v3.out hn1 hn2 hn3).mono ?_
          rintro e w18 ⟨rfl, b18⟩
          rw [g1.out, g2.out]
          replace u := Lib.hid (u.out.trans (b18.mono u.out.size))
          have hq5 : (headWR ts ss vs now keep == headWR ts ss vs now keep) = true := by simp
          clear hx hy hok
          generalize headWR ts ss vs now keep = G at *
          go_wp2_with fail
          go_ret
          exact ⟨rfl, u.out⟩
      · clear hG hall
        go_wp2_with fail
        refine (lawSum_any A2 n2 c2 _ ss _ p.out.int hn2 hbd.out).mono ?_
        rintro e w9 ⟨rfl, rfl⟩
        clear hbd hf' hp2' hfl hWs
        clear hx x
        go_wp2_with fail
        refine (drawTrim_any A' n' c' _ (h2'.out.below u.out) (by omega)).mono ?_
        clear p hH hW hz hq1 hq2 hn1 hn2 hm
        rintro e w11 ⟨A1, n1, c1, ts, A2, n2, c2, ss, V, m, d, vs, now, keep, rfl, P1, _, b1⟩
        have hn1 : n1 ≤ 1048576 := by have := P1.hn; omega
        have hn2 : n2 ≤ 1048576 := by have := P1.hn'; omega
        have hm : m ≤ 1048576 := by have := P1.hm; omega
        have kx := bx_below w11 (.cells #[.slice V m d] 29)
        have x := Lib.hid (bx_row w11 (.slice V m d) 29)
        have p := Lib.hid (P1.up kx)
        replace u := Lib.hid (u.out.trans ((b1.trans (kx.mono b1.size)).mono u.out.size))
        have hx := x.out.cell (i := 0) (by omega)
        have htl := Lib.hid (trimR_len ts ss vs now keep)
        clear P1 b1 kx
        obtain ⟨ok, hok⟩ : ∃ b, Hid (trimOK ts ss vs now keep = b) := ⟨_, Lib.hid rfl⟩
        have hq3 : (ok != ok) = false := by simp
        go_wp2_with fail
        refine (implTrim_any A1 n1 c1 ts A2 n2 c2 ss V m d vs now keep _ p.out.blk p.out.int p.out.vot hn1 hn2 hm).mono ?_
        rintro e w12 ⟨A3, n3, c3, rfl, o3, b12⟩
        rw [hok.out]
        have k12 := bx_below w12 (.cells #[.slice A3 n3 c3] 29)
        have b13 := b12.trans (k12.mono b12.size)
        have y := Lib.hid (bx_row w12 (.slice A3 n3 c3) 29)
        have hy := y.out.cell (i := 0) (by omega)
        have v3 := Lib.hid (o3.votes.up k12)
        have hn3 : n3 ≤ 1048576 := by have := o3.len; have := htl.out; omega
        replace p := Lib.hid (p.out.up b13); replace u := Lib.hid (u.out.trans (b13.mono u.out.size))
        replace x := Lib.hid (rowIs_below x.out b13 x.out.lt)
        clear hx
        have hx := x.out.cell (i := 0) (by omega)
        clear b12 b13 k12 o3
        go_wp2_with fail
        refine (specTrim_any A1 n1 c1 ts A2 n2 c2 ss V m d vs now keep _ p.out.blk p.out.int p.out.vot hn1 hn2 hm).mono ?_
        rintro e w14 ⟨A4, n4, c4, rfl, o4, b14⟩
        rw [hok.out]
        have k14 := bx_below w14 (.cells #[.slice A4 n4 c4] 29)
        have b15 := b14.trans (k14.mono b14.size)
        have z := Lib.hid (bx_row w14 (.slice A4 n4 c4) 29)
        have hz4 := z.out.cell (i := 0) (by omega)
        have v4 := Lib.hid (o4.votes.up k14)
        replace v3 := Lib.hid (v3.out.up b15)
        replace p := Lib.hid (p.out.up b15); replace u := Lib.hid (u.out.trans (b15.mono u.out.size))
        replace x := Lib.hid (rowIs_below x.out b15 x.out.lt)
        replace y := Lib.hid (rowIs_below y.out b15 y.out.lt)
        clear hx hy
        have hx := x.out.cell (i := 0) (by omega)
        have hy := y.out.cell (i := 0) (by omega)
        clear b14 b15 k14 o4
        go_wp2_with fail
        refine (sameVotes_any A3 A4 n3 n4 c3 c4 _ (trimR ts ss vs now keep) _ v3.out v4.out hn3).mono ?_
        rintro e w16 ⟨rfl, dr, hw16⟩
        have b16 : Below (w14.alloc (.cells #[.slice A4 n4 c4] 29)).heap.size (w14.alloc (.cells #[.slice A4 n4 c4] 29)) w16 := by rw [hw16]; exact below_drewN (Below.refl _ _) dr
        replace v3 := Lib.hid (v3.out.up b16)
        replace p := Lib.hid (p.out.up b16); replace u := Lib.hid (u.out.trans (b16.mono u.out.size))
        replace x := Lib.hid (rowIs_below x.out b16 x.out.lt)
        replace y := Lib.hid (rowIs_below y.out b16 y.out.lt)
        clear hx hy
        have hx := x.out.cell (i := 0) (by omega)
        have hy := y.out.cell (i := 0) (by omega)
        clear b16 hw16 hz4 z v4
        cases ok
        · go_wp2_with fail
          go_ret
          exact ⟨rfl, u.out⟩
        · obtain ⟨ht1, ht2⟩ := headW_trim hok.out
          have g1 := Lib.hid ht1; have g2 := Lib.hid ht2
          clear ht1 ht2
          go_wp2_with fail
          refine (implHeadW_any A1 n1 c1 ts A2 n2 c2 ss V m d vs now keep _ p.out.blk p.out.int p.out.vot hn1 hn2 hm).mono ?_
          rintro e w17 ⟨rfl, b17⟩
          rw [hok.out]
          replace v3 := Lib.hid (v3.out.up b17)
          replace p := Lib.hid (p.out.up b17); replace u := Lib.hid (u.out.trans (b17.mono u.out.size))
          replace x := Lib.hid (rowIs_below x.out b17 x.out.lt)
          replace y := Lib.hid (rowIs_below y.out b17 y.out.lt)
          clear hx hy
          have hx := x.out.cell (i := 0) (by omega)
          have hy := y.out.cell (i := 0) (by omega)
          clear b17
          go_wp2_with fail
          refine (implHeadW_any A1 n1 c1 ts A2 n2 c2 ss A3 n3 c3 (trimR ts ss vs now keep) now keep _ p.out.blk p.out.int v3.out hn1 hn2 hn3).mono ?_
          rintro e w18 ⟨rfl, b18⟩
          rw [g1.out, g2.out]
          replace u := Lib.hid (u.out.trans (b18.mono u.out.size))
          have hq5 : (headWR ts ss vs now keep == headWR ts ss vs now keep) = true := by simp
          clear hx hy hok
          generalize headWR ts ss vs now keep = G at *
          go_wp2_with fail
          go_ret
          exact ⟨rfl, u.out⟩
  · have hlen' : (1048576 : Int) < (n : Int) + (n' : Int) := by omega
    go_enter Try.func7, Try.ntmps7
    go_wp2_with fail
    go_ret
    exact ⟨rfl, Below.refl _ _⟩
end Go.Proofs.Ytlobjfipefibaab
