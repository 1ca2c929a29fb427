/- What is proved here: what the model's l4Tour appends, and what its ChildrenOf, OrderOf and TourOf return. No conditions. -/
import Derived.Test.YtoppgckmcclfpaaSpecOrder
namespace Go.Proofs.Ytoppgckmcclfpaa
open Go.RowKit

theorem tourL_append (xs ys : List (Nat × Bool)) : tourL (xs ++ ys) = tourL xs ++ tourL ys := by simp [tourL]

set_option maxRecDepth 100000 in
set_option maxHeartbeats 400000 in
theorem l4Tour_any (A : Option Addr) (n c : Nat) (ts : List Blk) (base : Nat) (hn : n ≤ 1000) (ht : Tree ts) (L : Nat) (hL : L ≤ 100000) : ∀ (f b : Nat) (v : Value) (ys : List Int) (w : World), ts.length - b ≤ f → b < ts.length →
    BlksAt w base A n ts → base ≤ w.heap.size → w.ownsRow base 3 1 v ys.length (ys.map (Value.int .i64)) → (ys ++ tourL (tour ts b)).length ≤ L →
    Calls Try.prog 99 #[.slice A n c, .int .i64 b, v] w (GrowPost w base v (ys ++ tourL (tour ts b))) := by
  intro f
  induction f with
  | zero => intro b v ys w hf hb; omega
  | succ f ih =>
    intro b v ys w hf hb hA hbase hown hlen
    obtain ⟨i0, hi, hz0, hz1, hz2⟩ := info_parts info3
    have hln : ts.length = n := hA.1
    have hA' := Lib.hid hA; have hown' := Lib.hid hown; have ih' := Lib.hid ih
    have hall := Lib.hid (show kidsL ts b n = kids ts b by unfold kids; rw [hln])
    have htp := Lib.hid (tourPart_all ht hb)
    have hyl : ys.length ≤ 1048576 := by rw [List.length_append] at hlen; omega
    have hlen' := Lib.hid hlen
    have hln' := Lib.hid hln
    clear hA hown ih hln hlen
    go_enter Try.func99, Try.ntmps99
    go_wp2_with (at_builtin; refine appendPl _ rfl _ _ 31 rfl base i0 Try.underlying31 hi hz0 hz1 hz2 _ ys rfl (hown'.out.alloc _) w.heap.size 0 1 b rfl (Boxed.new w 3 (.int .i64 b)).cell hyl (by rw [World.size_alloc]; omega) ?_; intro g c' w1 h1 h2 h3; have f1 := Lib.hid h1; have f2 := Lib.hid (Grows.append (n := ys.length + 1) (c := c') h2 h3); clear h1 h2 h3)
    have bw1 := f2.out.below hbase (fun g e => (hown'.out.lt g e).1)
    have hA1 := Lib.hid (hA'.out.below bw1)
    have hs1 := Nat.le_trans hbase bw1.size
    clear bw1
    refine (l4Children_any A n c ts b w1 (hA1.out.more hs1) hn ht).mono ?_
    rintro e w2 ⟨Ak, nk, ck, rfl, o2, b2⟩
    have hnk : nk ≤ 1000 := by
      rw [← o2.len]; unfold kidsZ kidsL; rw [List.length_map]; refine Nat.le_trans (List.length_filter_le _ _) ?_; simp; omega
    have o2' := Lib.hid o2
    have hkl := Lib.hid (show (kids ts b).length = nk by rw [← hall.out, ← o2.len]; unfold kidsZ; simp)
    have r2 := Lib.hid (show w2.ownsRow base 3 1 (.slice (some ⟨g, 0, none⟩) (ys.length + 1) c') (ys ++ tourL (tourPart ts b ([] : List Nat))).length ((ys ++ tourL (tourPart ts b [])).map (Value.int .i64)) from
      f1.out.kept ⟨b2.os, b2.tape, b2.output, b2.size, fun k hk _ => b2.block k hk⟩ (.inr (by simp [Value.ownBlock]) : _ ∨ _ ≠ (none : Option Nat)))
    have g2 := Lib.hid (f2.out.trans (Grows.still (.slice (some ⟨g, 0, none⟩) (ys.length + 1) c') b2))
    have hg1 := Lib.hid (f1.out.lt g rfl)
    have hs2 := b2.size
    clear o2 b2 f1 f2 hA1
    go_wp2_with fail
    go_loopw [2, 8, 17] (fun o _ i wr => ∃ j : Nat, j ≤ nk ∧ i = .int .i64 j ∧ Hid (wr.ownsRow base 3 1 o (ys ++ tourL (tourPart ts b ((kids ts b).take j))).length ((ys ++ tourL (tourPart ts b ((kids ts b).take j))).map (Value.int .i64))) ∧ Hid (Grows w2 (.slice (some ⟨g, 0, none⟩) (ys.length + 1) c') wr o)) (fun _ _ i _ => nk - (intOf i).toNat)
    case atStart => exact ⟨0, Nat.zero_le _, rfl, r2, Lib.hid (Grows.still _ (Below.refl _ _))⟩
    case round =>
      obtain ⟨j, hj, rfl, ho, hgr⟩ := hrel
      by_cases hlt : j < nk
      · have hjl : j < (kids ts b).length := by rw [hkl.out]; exact hlt
        have hx := kids_above ht (b := b) (i := (kids ts b)[j]?.getD 0) (by rw [List.getElem?_eq_getElem hjl]; exact List.getElem_mem _)
        have hst := take_snoc hjl
        have hpart := tourL_part (ts := ts) (b := b) ((kids ts b).take j) ((kids ts b)[j]?.getD 0)
        rw [← hst] at hpart
        have hpre : tourL (tourPart ts b ((kids ts b).take (j + 1))) <+: tourL (tour ts b) := by
          obtain ⟨r, hr⟩ := tourPart_prefix ht hb (List.take_prefix (j + 1) (kids ts b))
          rw [← hr, tourL_append]; exact List.prefix_append _ _
        have hln2 := hpre.length_le
        rw [hpart] at hln2
        have hL2 : (ys ++ tourL (tourPart ts b ((kids ts b).take j)) ++ tourL (tour ts ((kids ts b)[j]?.getD 0))).length ≤ L := by
          have := hlen'.out; simp only [List.length_append] at this hln2 ⊢; omega
        have bwr := hgr.out.below (B := base) (by omega) (fun g' e => by cases e; exact hg1.out.1)
        have hsr := hgr.out.by_.size
        have hAr := hA'.out.below ((g2.out.below hbase (fun g' e => (hown'.out.lt g' e).1)).trans bwr)
        have ok := o2'.out.keep hsr (fun ad e => hgr.out.by_.block _ (o2'.out.low ad e).2 (fun e' => by injection e' with e'; have := (o2'.out.low ad e).1; have := hg1.out.2; simp at e'; omega))
        obtain ⟨gk, ok2, eK, _, hck⟩ := ok.ints.2 j hlt
        rw [hall.out, kidsZ_at hjl] at hck
        have call := Lib.hid (ih'.out ((kids ts b)[j]?.getD 0) _ (ys ++ tourL (tourPart ts b ((kids ts b).take j))) wr (by omega) hx.2.1 hAr (by omega) ho.out hL2)
        have hL3 : (ys ++ tourL (tourPart ts b ((kids ts b).take j)) ++ tourL (tour ts ((kids ts b)[j]?.getD 0))).length ≤ 1048576 := by omega
        have hpart' := Lib.hid hpart
        have call' := call
        subst eK
        generalize (kids ts b)[j]?.getD 0 = X at hck call' hL3 hpart'
        clear call hx hst hpart hpre hln2 hL2 bwr hAr ok
        go_wp2_with fail
        refine call'.out.mono ?_
        rintro e w3 ⟨v3, rfl, ho3, hg3⟩
        have hZe : ys ++ tourL (tourPart ts b ((kids ts b).take (j + 1))) = (ys ++ tourL (tourPart ts b ((kids ts b).take j)) ++ tourL (tour ts X)) ++ [(b : Int)] := by rw [hpart'.out]; simp only [List.append_assoc]
        obtain ⟨Z, hZ⟩ : ∃ Z, ys ++ tourL (tourPart ts b ((kids ts b).take j)) ++ tourL (tour ts X) = Z := ⟨_, rfl⟩
        rw [hZ] at ho3 hL3 hZe
        have hZe' := Lib.hid hZe
        have q1 := Lib.hid ho3; have q2 := Lib.hid (hgr.out.trans hg3)
        have hs3 := hg3.by_.size
        clear hZ hZe
        clear ho3 hg3
        have hb3 : base ≤ (w3.alloc (.cells #[.int .i64 b] 3)).heap.size := by rw [World.size_alloc]; omega
        go_wp2_with (at_builtin; refine appendPl _ rfl _ _ 31 rfl base i0 Try.underlying31 hi hz0 hz1 hz2 v3 Z rfl ?k1 w3.heap.size 0 1 b rfl ?k2 hL3 hb3 ?k3)
        case k1 => exact q1.out.alloc _
        case k2 => exact (Boxed.new w3 3 (.int .i64 b)).cell
        case k3 =>
          intro g' c4 w4 h1 h2 h3
          have p1 := Lib.hid (show w4.ownsRow base 3 1 (.slice (some ⟨g', 0, none⟩) (Z.length + 1) c4) (ys ++ tourL (tourPart ts b ((kids ts b).take (j + 1)))).length ((ys ++ tourL (tourPart ts b ((kids ts b).take (j + 1)))).map (Value.int .i64)) by rw [hZe'.out]; simpa using h1)
          have p2 := Lib.hid (q2.out.trans (Grows.append (n := Z.length + 1) (c := c4) h2 (by rw [World.size_alloc]; exact h3)))
          clear h1 h2 h3
          go_wp2_with fail
          go_roundw
          case rel => exact ⟨j + 1, by omega, by go_num, p1, p2⟩
          case measure => simp [intOf]; omega
      · have hjk : (kids ts b).take j = kids ts b := List.take_of_length_le (by rw [hkl.out]; omega)
        rw [hjk, htp.out] at ho
        have q2 := Lib.hid (g2.out.trans hgr.out)
        clear hjk
        go_wp2_with fail
        go_ret
        exact ⟨_, rfl, ho.out, q2.out⟩

set_option maxRecDepth 100000 in
theorem specKids_any (A : Option Addr) (n c : Nat) (ts : List Blk) (b : Int) (w : World) (h : BlksAt w w.heap.size A n ts) (hn : n ≤ 1048576) :
    Calls Try.prog 53 #[.slice A n c, .int .i64 b] w (RetOwn w (okK ts b) (kidsR ts b)) := by
  have hh := Lib.hid h; clear h
  go_enter Try.func53, Try.ntmps53
  go_wp2_with fail
  refine (there_ok _ _ _ ts b _ hh.out hn).mono ?_
  rintro e w1 ⟨rfl, b1⟩
  have u1 := Lib.hid b1; clear b1
  cases hg : okK ts b
  · have hr := Lib.hid (show kidsR ts b = [] by unfold kidsR; rw [hg]; rfl)
    go_wp2_with fail
    go_ret2
    exact ⟨none, 0, 0, by rw [hg]; rfl, by rw [hr.out]; exact own_nil _ _, u1.out⟩
  · obtain ⟨ht, k, rfl, hk⟩ := okK_iff.1 hg
    have hr := Lib.hid (show kidsR ts k = kidsZ (kids ts k) by unfold kidsR; rw [hg, Int.toNat_natCast]; rfl)
    have hf := ht.few
    have hln := hh.out.1
    have hkn := Lib.hid (show kids ts k = kidsL ts k n by unfold kids; rw [hln])
    have hn24 : n ≤ 24 := by omega
    have k1 := Lib.hid (hh.out.up u1.out)
    clear hf hln
    go_wp2_with fail
    refine (l4Children_any A n c ts k w1 k1.out (by omega) ht).mono ?_
    rintro e w3 ⟨A', n', c', rfl, o3, b3⟩
    have u3 := Lib.hid (u1.out.trans (b3.mono u1.out.size)); have o3' := Lib.hid (o3.fewer u1.out.size)
    clear o3 b3
    go_wp2_with fail
    go_ret2
    exact ⟨A', n', c', by rw [hg]; rfl, by rw [hr.out, hkn.out]; exact o3'.out, u3.out⟩

set_option maxRecDepth 100000 in
theorem specOrder_any (A : Option Addr) (n c : Nat) (ts : List Blk) (w : World) (h : BlksAt w w.heap.size A n ts) (hn : n ≤ 1048576) (hlen : Tree ts → (tour ts 0).length ≤ 1000) :
    Calls Try.prog 45 #[.slice A n c] w (RetOwn w (goodT ts) (ordR ts)) := by
  have hh := Lib.hid h; clear h
  go_enter Try.func45, Try.ntmps45
  go_wp2_with fail
  refine (specGoodT_any _ _ _ ts _ hh.out hn).mono ?_
  rintro e w1 ⟨rfl, b1⟩
  have u1 := Lib.hid b1; clear b1
  cases hg : goodT ts
  · have hr := Lib.hid (show ordR ts = [] by unfold ordR; rw [hg]; rfl)
    go_wp2_with fail
    go_ret2
    exact ⟨none, 0, 0, by rw [hg]; rfl, by rw [hr.out]; exact own_nil _ _, u1.out⟩
  · have ht := goodT_iff.1 hg
    have hr := Lib.hid (show ordR ts = orderL (tour ts 0) by unfold ordR; rw [hg]; rfl)
    have hf := ht.few
    have hln := hh.out.1
    have hn24 : n ≤ 24 := by omega
    have hl := hlen ht
    have hl2 : (([] : List Int) ++ orderL (tour ts 0)).length ≤ 1000 := by rw [List.nil_append]; exact Nat.le_trans (orderL_len _) hl
    have k1 := Lib.hid (hh.out.up u1.out)
    clear hf hln hl
    go_wp2_with fail
    refine (l4Order_any A n c ts w1.heap.size (by omega) ht 1000 (by omega) (ts.length - 0) 0 (.slice none 0 0) [] w1 (Nat.le_refl _) ht.pos k1.out (Nat.le_refl _) (World.ownsRow_nil _ _ _ _) hl2).mono ?_
    rintro e w3 ⟨v3, rfl, ho, hgr⟩
    obtain ⟨A', c', rfl, o3⟩ := OwnAt.of_owns ho
    have b3 := hgr.below (B := w1.heap.size) (Nat.le_refl _) (fun g e => by cases e)
    have u3 := Lib.hid (u1.out.trans (b3.mono u1.out.size)); have o3' := Lib.hid (o3.fewer u1.out.size)
    clear ho hgr o3 b3
    go_wp2_with fail
    go_ret2
    exact ⟨A', _, c', by rw [hg]; rfl, by rw [hr.out]; exact o3'.out, u3.out⟩

set_option maxRecDepth 100000 in
theorem specTour_any (A : Option Addr) (n c : Nat) (ts : List Blk) (w : World) (h : BlksAt w w.heap.size A n ts) (hn : n ≤ 1048576) (hlen : Tree ts → (tour ts 0).length ≤ 1000) :
    Calls Try.prog 47 #[.slice A n c] w (RetOwn w (goodT ts) (tourR ts)) := by
  have hh := Lib.hid h; clear h
  go_enter Try.func47, Try.ntmps47
  go_wp2_with fail
  refine (specGoodT_any _ _ _ ts _ hh.out hn).mono ?_
  rintro e w1 ⟨rfl, b1⟩
  have u1 := Lib.hid b1; clear b1
  cases hg : goodT ts
  · have hr := Lib.hid (show tourR ts = [] by unfold tourR; rw [hg]; rfl)
    go_wp2_with fail
    go_ret2
    exact ⟨none, 0, 0, by rw [hg]; rfl, by rw [hr.out]; exact own_nil _ _, u1.out⟩
  · have ht := goodT_iff.1 hg
    have hr := Lib.hid (show tourR ts = tourL (tour ts 0) by unfold tourR; rw [hg]; rfl)
    have hf := ht.few
    have hln := hh.out.1
    have hn24 : n ≤ 24 := by omega
    have hl := hlen ht
    have hl2 : (([] : List Int) ++ tourL (tour ts 0)).length ≤ 1000 := by rw [List.nil_append]; exact Nat.le_trans (Nat.le_of_eq (tourL_len _)) hl
    have k1 := Lib.hid (hh.out.up u1.out)
    clear hf hln hl
    go_wp2_with fail
    refine (l4Tour_any A n c ts w1.heap.size (by omega) ht 1000 (by omega) (ts.length - 0) 0 (.slice none 0 0) [] w1 (Nat.le_refl _) ht.pos k1.out (Nat.le_refl _) (World.ownsRow_nil _ _ _ _) hl2).mono ?_
    rintro e w3 ⟨v3, rfl, ho, hgr⟩
    obtain ⟨A', c', rfl, o3⟩ := OwnAt.of_owns ho
    have b3 := hgr.below (B := w1.heap.size) (Nat.le_refl _) (fun g e => by cases e)
    have u3 := Lib.hid (u1.out.trans (b3.mono u1.out.size)); have o3' := Lib.hid (o3.fewer u1.out.size)
    clear ho hgr o3 b3
    go_wp2_with fail
    go_ret2
    exact ⟨A', _, c', by rw [hg]; rfl, by rw [hr.out]; exact o3'.out, u3.out⟩
end Go.Proofs.Ytoppgckmcclfpaa
