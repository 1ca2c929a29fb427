/- What is proved here: what BelowOf of the program and of the model return. No conditions. -/
import Derived.Test.YtoppgckmcclfpaaTourFacts
import Derived.Test.YtoppgckmcclfpaaPutWalk
import Derived.Test.YtoppgckmcclfpaaShelf
import Derived.Sort.OwnSortedInts
namespace Go.Proofs.Ytoppgckmcclfpaa
open Go.RowKit Go.Sort

def belR (ts : List Blk) (b : Int) : List Int := if okK ts b then sortI (orderL (tour ts b.toNat)) else []

set_option maxRecDepth 100000 in
set_option maxHeartbeats 1000000 in
theorem implBelow_any (A : Option Addr) (n c : Nat) (ts : List Blk) (b : Int) (w : World) (h : BlksAt w w.heap.size A n ts) (hn : n ≤ 1048576) :
    Calls Try.prog 48 #[.slice A n c, .int .i64 b] w (RetOwn w (okK ts b) (belR ts b)) := by
  have hh := Lib.hid h; clear h
  go_enter Try.func48, Try.ntmps48
  go_wp2_with fail
  refine (isBlock_ok _ _ _ ts b _ hh.out hn).mono ?_
  rintro e w1 ⟨rfl, b1⟩
  have u1 := Lib.hid b1; clear b1
  cases hg : okK ts b
  · have hr := Lib.hid (show belR ts b = [] by unfold belR; rw [hg]; rfl)
    go_wp2_with fail
    go_ret2
    exact ⟨none, 0, 0, by rw [hg]; rfl, by rw [hr.out]; exact own_nil _ _, u1.out⟩
  · obtain ⟨ht, k, rfl, hk⟩ := okK_iff.1 hg
    have hr := Lib.hid (show belR ts k = sortI (orderL (tour ts k)) by unfold belR; rw [hg, Int.toNat_natCast]; rfl)
    have k1 := Lib.hid (hh.out.up u1.out)
    have hl : (tour ts k).length ≤ 1000 := by have := tour_short ht hk; omega
    have hpos : 0 < (orderL (tour ts k)).length := by rw [tour_step ht hk, orderL_cons]; simp
    have hg' := Lib.hid hg
    clear hg
    go_wp2_with fail
    refine (preorderFrom_any A n c ts k w1 k1.out hn ht hk hl).mono ?_
    rintro e w2 ⟨A', n', c', rfl, o2, b2⟩
    have hn' := o2.len
    obtain ⟨g, m, f, rfl, hm, hrow, hf⟩ := o2.own (by omega)
    obtain ⟨cur, hblk, hsz, hcur⟩ := hrow
    have hH : Holds (Value.int .i64) w2 g 0 (orderL (tour ts k)).toArray := by
      intro j hj
      have hj' : j < n' := by simpa [hn'] using hj
      have q : w2.rowIs g 3 m f := ⟨cur, hblk, hsz, hcur⟩
      refine ⟨?_, by rw [Nat.zero_add]; exact q.frozen j⟩
      rw [Nat.zero_add, q.cell (by omega), hf j hj']
      simp [show j < (orderL (tour ts k)).length by omega]
    have hgl : g < w2.heap.size := (Array.getElem?_eq_some_iff.1 hblk).1
    have hlo := (o2.low _ rfl).1
    have hsort := Lib.hid (Try.slices_Sort_int g 0 c' (orderL (tour ts k)) w2 hH hgl (by have := orderL_len (tour ts k); omega))
    rw [hn'] at hsort
    have u2 := Lib.hid (u1.out.trans (b2.mono u1.out.size))
    have hn2 := Lib.hid hn'
    have hb2 := Lib.hid hblk
    have hs1 := Lib.hid u1.out.size
    have hcm : Hid (cur.size = m) := Lib.hid hsz
    clear o2 b2 hf hcur hH hn' hblk hsz hpos
    go_wp2_with fail
    refine hsort.out.mono ?_
    rintro e w3 ⟨rfl, q, os, hw3⟩
    have hgr : w2.grownBy w3 (some g) := by rw [hw3]; exact grownBy_sortedI _
    have hbk : w3.heap[g]? = some (.cells (putCells (Value.int .i64) 0 (sortI (orderL (tour ts k))).toArray cur) 3 (0, 0)) := by rw [hw3]; exact heap_sortedI _ hb2.out
    have u3 := Lib.hid (u2.out.grown hgr u2.out.size (fun j e => by injection e with e; have := hs1.out; have : w1.heap.size ≤ g := hlo; omega))
    have own3 : OwnAt w3 w.heap.size (some ⟨g, 0, none⟩) n' (sortI (orderL (tour ts k))) := by
      have hs : (putCells (Value.int .i64) 0 (sortI (orderL (tour ts k))).toArray cur).size = m := by simp [putCells, hcm.out]
      refine ⟨by rw [sortI_len]; exact hn2.out, fun _ => ⟨g, m, fun i => (putCells (Value.int .i64) 0 (sortI (orderL (tour ts k))).toArray cur)[i]?.getD undef, rfl, hm, ⟨_, hbk, hs, fun i hi => ?_⟩, fun i hi => ?_⟩, fun ad e => by cases e; exact ⟨by have := hs1.out; have : w1.heap.size ≤ g := hlo; show w.heap.size ≤ g; omega, Nat.lt_of_lt_of_le hgl hgr.size⟩⟩
      · dsimp only
        rw [Array.getElem?_eq_getElem (by rw [hs]; exact hi), Option.getD_some]
      · have hcs : cur.size = m := hcm.out
        have hil : i < (sortI (orderL (tour ts k))).length := by rw [sortI_len, hn2.out]; exact hi
        simp [putCells, show i < cur.size by omega, hil]
    have own3' := Lib.hid own3
    clear hgr hbk own3 hw3 hsort
    go_wp2_with fail
    go_ret2
    exact ⟨_, _, _, by rw [hg'.out]; rfl, by rw [hr.out]; exact own3'.out, u3.out⟩

theorem putAll_snoc {l : List Int} {j : Nat} (h : j < l.length) : putAll [] (l.take (j + 1)) = putL (putAll [] (l.take j)) (l[j]?.getD 0) := by
  rw [List.take_succ_eq_append_getElem h, List.getElem?_eq_getElem h]; unfold putAll; rw [List.foldl_append]; rfl
theorem putAll_len : ∀ (ks l : List Int), (putAll l ks).length ≤ l.length + ks.length
  | [], l => Nat.le_refl _
  | x :: ks, l => by
    have := putAll_len ks (putL l x)
    have := putL_len l x
    show (putAll (putL l x) ks).length ≤ _
    simp only [List.length_cons]; omega
theorem order_nodup {ts : List Blk} (ht : Tree ts) {b : Nat} (hb : b < ts.length) : (orderL (tour ts b)).Nodup := by
  rw [orderL_eq]
  have := pre_nodup ht _ b hb (Nat.le_refl _)
  unfold kidsZ
  refine List.Pairwise.map _ (fun a c h => ?_) this
  omega

set_option maxRecDepth 100000 in
set_option maxHeartbeats 1000000 in
theorem l4Below_any (A : Option Addr) (n c : Nat) (ts : List Blk) (b : Nat) (w : World) (h : BlksAt w w.heap.size A n ts) (hn : n ≤ 1000) (ht : Tree ts) (hb : b < ts.length) :
    Calls Try.prog 101 #[.slice A n c, .int .i64 b] w (RetSl w (sortI (orderL (tour ts b)))) := by
  have hh := Lib.hid h; clear h
  have hl : (([] : List Int) ++ orderL (tour ts b)).length ≤ 1000 := by
    rw [List.nil_append]; exact Nat.le_trans (orderL_len _) (by have := tour_short ht hb; omega)
  have hfin := Lib.hid (putAll_sort (order_nodup ht hb))
  go_enter Try.func101, Try.ntmps101
  go_wp2_with fail
  refine (l4Order_any A n c ts w.heap.size (by omega) ht 1000 (by omega) (ts.length - b) b (.slice none 0 0) [] w (Nat.le_refl _) hb hh.out (Nat.le_refl _) (World.ownsRow_nil _ _ _ _) hl).mono ?_
  rintro e w3 ⟨v3, rfl, ho, hgr⟩
  rw [List.nil_append] at ho hl
  obtain ⟨A', c', rfl, o3⟩ := OwnAt.of_owns ho
  have b3 := hgr.below (B := w.heap.size) (Nat.le_refl _) (fun g e => by cases e)
  obtain ⟨l, hle⟩ : ∃ l, orderL (tour ts b) = l := ⟨_, rfl⟩
  rw [hle] at ho hl o3 hfin ⊢
  obtain ⟨m, hm⟩ : ∃ m, Hid (l.length = m) := ⟨_, Lib.hid rfl⟩
  rw [hm.out] at hl o3 ⊢
  have o3' := Lib.hid o3; have u3 := Lib.hid b3
  have hle' := Lib.hid hle
  clear ho hgr o3 b3 hle
  go_wp2_with fail
  go_loopw [5, 7, 12] (fun ov _ i wr => ∃ j : Nat, j ≤ m ∧ i = .int .i64 j ∧ Hid (wr.ownsRow w.heap.size 3 1 ov (putAll [] (l.take j)).length ((putAll [] (l.take j)).map (Value.int .i64))) ∧ Hid (Below w3.heap.size w3 wr)) (fun _ _ i _ => m - (intOf i).toNat)
  case atStart => exact ⟨0, Nat.zero_le _, rfl, Lib.hid (World.ownsRow_nil _ _ _ _), Lib.hid (Below.refl _ _)⟩
  case round =>
    obtain ⟨j, hj, rfl, ho, hbel⟩ := hrel
    by_cases hlt : j < m
    · obtain ⟨gb, gof, e, hgb, hc0⟩ := o3'.out.ints.2 j hlt
      have hc := (hbel.out.cell (p := ⟨gb, gof + j, none⟩) hgb).trans hc0
      subst e
      have hst := Lib.hid (putAll_snoc (l := l) (j := j) (by rw [hm.out]; exact hlt))
      have hpl := putAll_len (l.take j) []
      rw [List.length_take, hm.out] at hpl
      simp only [List.length_nil] at hpl
      have hs1 := hbel.out.size
      have hs2 := u3.out.size
      have hcall := Lib.hid (fun v (hv : wr.ownsRow w.heap.size 3 1 v (putAll [] (l.take j)).length ((putAll [] (l.take j)).map (Value.int .i64))) => l1Put_any v (putAll [] (l.take j)) (l[j]?.getD 0) w.heap.size wr hv (by omega) (by omega))
      rw [← hst.out] at hcall
      clear hc0 hpl
      generalize l[j]?.getD 0 = y at hc hcall
      go_wp2_with fail
      refine (hcall.out _ ho.out).mono ?_
      rintro e w4 ⟨v4, rfl, o4, b4⟩
      have o4' := Lib.hid o4; have u4 := Lib.hid (hbel.out.trans (b4.mono hbel.out.size))
      clear o4 b4 hc
      go_wp2_with fail
      go_roundw
      case rel => exact ⟨j + 1, by omega, by go_num, o4', u4⟩
      case measure => simp [intOf]; omega
    · have hjm : l.take j = l := List.take_of_length_le (by rw [hm.out]; omega)
      rw [hjm, hfin.out] at ho
      have u5 := Lib.hid (u3.out.trans (hbel.out.mono u3.out.size))
      clear hjm
      go_wp2_with fail
      go_ret
      obtain ⟨A6, c6, e, o6⟩ := OwnAt.of_owns ho.out
      exact ⟨A6, _, c6, by rw [e]; rfl, by rw [hle'.out]; exact o6, u5.out⟩

set_option maxRecDepth 100000 in
theorem specBelow_any (A : Option Addr) (n c : Nat) (ts : List Blk) (b : Int) (w : World) (h : BlksAt w w.heap.size A n ts) (hn : n ≤ 1048576) :
    Calls Try.prog 51 #[.slice A n c, .int .i64 b] w (RetOwn w (okK ts b) (belR ts b)) := by
  have hh := Lib.hid h; clear h
  go_enter Try.func51, Try.ntmps51
  go_wp2_with fail
  refine (there_ok _ _ _ ts b _ hh.out hn).mono ?_
  rintro e w1 ⟨rfl, b1⟩
  have u1 := Lib.hid b1; clear b1
  cases hg : okK ts b
  · have hr := Lib.hid (show belR ts b = [] by unfold belR; rw [hg]; rfl)
    go_wp2_with fail
    go_ret2
    exact ⟨none, 0, 0, by rw [hg]; rfl, by rw [hr.out]; exact own_nil _ _, u1.out⟩
  · obtain ⟨ht, k, rfl, hk⟩ := okK_iff.1 hg
    have hr := Lib.hid (show belR ts k = sortI (orderL (tour ts k)) by unfold belR; rw [hg, Int.toNat_natCast]; rfl)
    have hf := ht.few
    have hln := hh.out.1
    have hn24 : n ≤ 24 := by omega
    have k1 := Lib.hid (hh.out.up u1.out)
    clear hf hln
    go_wp2_with fail
    refine (l4Below_any A n c ts k w1 k1.out (by omega) ht hk).mono ?_
    rintro e w3 ⟨A', n', c', rfl, o3, b3⟩
    have u3 := Lib.hid (u1.out.trans (b3.mono u1.out.size)); have o3' := Lib.hid (o3.fewer u1.out.size)
    clear o3 b3
    go_wp2_with fail
    go_ret2
    exact ⟨A', n', c', by rw [hg]; rfl, by rw [hr.out]; exact o3'.out, u3.out⟩
theorem belR_len (ts : List Blk) (b : Int) : (belR ts b).length ≤ 100 := by
  unfold belR
  cases hg : okK ts b
  · simp
  · obtain ⟨ht, k, rfl, hk⟩ := okK_iff.1 hg
    simp only [if_true, Int.toNat_natCast]
    rw [sortI_len]
    have := tour_short ht hk
    exact Nat.le_trans (orderL_len _) (by omega)
end Go.Proofs.Ytoppgckmcclfpaa
