/- What is proved here: what SpansOf of the model returns. No conditions. -/
import Derived.Test.YtoppgckmcclfpaaSpansImpl
import Derived.Test.YtoppgckmcclfpaaSparse
namespace Go.Proofs.Ytoppgckmcclfpaa
open Go.RowKit

theorem orderL_at {xs : List (Nat × Bool)} {i k : Nat} (h : (ordN xs)[i]? = some k) : (orderL xs)[i]?.getD 0 = (k : Int) := by
  rw [orderL_eq]; unfold kidsZ; rw [List.getElem?_map, h]; rfl
theorem order_ne {ts : List Blk} (ht : Tree ts) {i j k : Nat} (hi : (pre ts 0)[i]? = some k) (hj : j < i) : (orderL (tour ts 0))[j]?.getD 0 ≠ (k : Int) := by
  have hn := pre_nodup ht _ 0 ht.pos (Nat.le_refl _)
  obtain ⟨hil, hie⟩ := List.getElem?_eq_some_iff.1 hi
  have hjl : j < (pre ts 0).length := by omega
  rw [orderL_at (k := (pre ts 0)[j]) (by show (pre ts 0)[j]? = _; exact List.getElem?_eq_getElem hjl)]
  intro e
  have e' : (pre ts 0)[j] = (pre ts 0)[i] := by rw [hie]; omega
  have := (List.getElem_inj hn).1 e'
  omega
theorem orderL_pre (ts : List Blk) (b : Nat) : (orderL (tour ts b)).length = (pre ts b).length := by rw [orderL_eq]; unfold kidsZ pre; simp
theorem RowsSt.none_ (B : Nat) (w : World) (r : Nat → List Int) : RowsSt B w (.slice none 0 0) 0 r :=
  ⟨[], fun _ => none, fun _ => 0, World.ownsRow_nil _ _ _ _, fun _ h => absurd h (Nat.not_lt_zero _), fun _ _ h => absurd h (Nat.not_lt_zero _)⟩
theorem own_two {w : World} (x y : Int) : OwnAt (w.alloc (.cells #[.int .i64 x, .int .i64 y] 3)) w.heap.size (some ⟨w.heap.size, 0, none⟩) 2 [x, y] :=
  ⟨rfl, fun _ => ⟨w.heap.size, 2, fun j => if j = 0 then .int .i64 x else .int .i64 y, rfl, Nat.le_refl _, ⟨_, World.alloc_heap_new w _, rfl, fun j hj => by
      have : j = 0 ∨ j = 1 := by omega
      rcases this with rfl | rfl <;> rfl⟩, fun j hj => by
      have : j = 0 ∨ j = 1 := by omega
      rcases this with rfl | rfl <;> rfl⟩, fun ad e => by cases e; exact ⟨Nat.le_refl _, by simp⟩⟩

set_option maxRecDepth 100000 in
set_option maxHeartbeats 1600000 in
theorem specSpans_any (A : Option Addr) (n c : Nat) (ts : List Blk) (w : World) (h : BlksAt w w.heap.size A n ts) (hn : n ≤ 1048576) :
    Calls Try.prog 43 #[.slice A n c] w (RetSpans w (goodT ts) (spansR ts)) := by
  obtain ⟨j0, hj0, hy0, hy1, hy2⟩ := info_parts infoInts2
  have hh := Lib.hid h; clear h
  go_enter Try.func43, Try.ntmps43
  go_wp2_with fail
  refine (specGoodT_any _ _ _ ts _ hh.out hn).mono ?_
  rintro e w1 ⟨rfl, b1⟩
  have u1 := Lib.hid b1; clear b1
  cases hg : goodT ts
  · have hr := Lib.hid (show spansR ts = [] by unfold spansR; rw [hg]; rfl)
    go_wp2_with fail
    go_ret2
    exact ⟨none, 0, 0, by rw [hg]; rfl, by rw [hr.out]; rfl, ⟨fun h => absurd h (Nat.lt_irrefl _)⟩, u1.out⟩
  · have ht := goodT_iff.1 hg
    have hr := Lib.hid (show spansR ts = spansT ts by unfold spansR; rw [hg]; rfl)
    have hf := ht.few
    have hln := hh.out.1
    have hn24 : n ≤ 24 := by omega
    have hl := tour_short ht ht.pos
    have hl2 : (([] : List Int) ++ orderL (tour ts 0)).length ≤ 1000 := by rw [List.nil_append]; exact Nat.le_trans (orderL_len _) (by omega)
    have k1 := Lib.hid (hh.out.up u1.out)
    have hlen := Lib.hid hln
    have hg' := Lib.hid hg
    clear hf hln hl hg
    go_wp2_with fail
    refine (l4Order_any A n c ts w1.heap.size (by omega) ht 1000 (by omega) (ts.length - 0) 0 (.slice none 0 0) [] w1 (Nat.le_refl _) ht.pos k1.out (Nat.le_refl _) (World.ownsRow_nil _ _ _ _) hl2).mono ?_
    rintro e w3 ⟨v3, rfl, ho, hgr⟩
    rw [List.nil_append] at ho
    obtain ⟨A', c', rfl, o3⟩ := OwnAt.of_owns ho
    have b3 := hgr.below (B := w1.heap.size) (Nat.le_refl _) (fun g e => by cases e)
    have k3 := Lib.hid (k1.out.up b3)
    have u3 := Lib.hid (u1.out.trans (b3.mono u1.out.size)); have o3' := Lib.hid o3
    have hol : (orderL (tour ts 0)).length = n := by rw [orderL_pre, pre_len ht]; exact hlen.out
    rw [hol] at o3'
    rw [hol]
    clear ho hgr o3 b3 hol
    go_wp2_with fail
    go_loopw [5, 6, 7, 15] (fun ov _ _ i wr => ∃ k : Nat, k ≤ n ∧ i = .int .i64 k ∧ Hid (RowsSt w3.heap.size wr ov k (rowG (spansT ts))) ∧ Hid (Below w3.heap.size w3 wr)) (fun _ _ _ i _ => n - (intOf i).toNat)
    case atStart => exact ⟨0, Nat.zero_le _, rfl, Lib.hid (RowsSt.none_ _ _ _), Lib.hid (Below.refl _ _)⟩
    case round =>
      obtain ⟨k, hk, rfl, hs, hbel⟩ := hrel
      by_cases hlt : k < n
      · have hkl : k < ts.length := by rw [hlen.out]; exact hlt
        obtain ⟨q1, q2⟩ := span_all ht hkl
        obtain ⟨idx, hidx⟩ : ∃ idx, Hid (((spF (tour ts 0)).1 k).1 = idx) := ⟨_, Lib.hid rfl⟩
        have hrow := Lib.hid (spansT_row hkl)
        unfold spanRow at hrow
        rw [q2, hidx.out] at hrow
        rw [hidx.out] at q1
        have q1' := Lib.hid q1
        have hidn : idx < n := by
          have := (List.getElem?_eq_some_iff.1 q1).1
          rw [pre_len ht, hlen.out] at this
          exact this
        have hkl' := Lib.hid hkl
        have hor := Lib.hid (o3'.out.ints.below hbel.out)
        clear q1 q2 hkl
        go_wp2_with fail
        go_loop [7] (fun fv => ∃ j : Nat, j ≤ idx ∧ fv = .int .i64 j) (fun fv => idx - (intOf fv).toNat)
        case atStart => exact ⟨0, Nat.zero_le _, rfl⟩
        case round =>
          obtain ⟨j, hj, rfl⟩ := hrel
          obtain ⟨bo, oo, eo, _, hco⟩ := hor.out.2 j (by omega)
          subst eo
          by_cases hji : j < idx
          · have hne : ((orderL (tour ts 0))[j]?.getD 0 != (k : Int)) = true := by
              have := order_ne ht q1'.out hji
              simpa using this
            go_wp2_with fail
            go_round
            case rel => exact ⟨j + 1, by omega, by go_num⟩
            case measure => simp [intOf]; omega
          · have hje : j = idx := by omega
            have hval := orderL_at (xs := tour ts 0) q1'.out
            rw [hje, hval] at hco
            have hje' := Lib.hid hje
            clear hje hval hj hji
            have hne : ((k : Int) != (k : Int)) = false := by simp
            have hj2 : j < n := by rw [hje'.out]; exact hidn
            rw [← hje'.out] at hco
            have kr := Lib.hid ((k3.out.up hbel.out))
            have hl3 : (([] : List Int) ++ orderL (tour ts k)).length ≤ 1000 := by
              rw [List.nil_append]; exact Nat.le_trans (orderL_len _) (by have := tour_short ht hkl'.out; omega)
            go_wp2_with fail
            refine (l4Order_any A n c ts wr.heap.size (by omega) ht 1000 (by omega) (ts.length - k) k (.slice none 0 0) [] wr (Nat.le_refl _) hkl'.out kr.out (Nat.le_refl _) (World.ownsRow_nil _ _ _ _) hl3).mono ?_
            rintro e w4 ⟨v4, rfl, ho4, hgr4⟩
            rw [List.nil_append] at ho4
            obtain ⟨A4, c4, rfl, o4⟩ := OwnAt.of_owns ho4
            have b4 := hgr4.below (B := wr.heap.size) (Nat.le_refl _) (fun g e => by cases e)
            have hol : (orderL (tour ts k)).length = (pre ts k).length := orderL_pre ts k
            rw [hol]
            have hpl := pre_len_le ht hkl'.out
            rw [hlen.out] at hpl
            obtain ⟨L, hL⟩ : ∃ L, Hid ((pre ts k).length = L) := ⟨_, Lib.hid rfl⟩
            rw [hL.out] at hpl ⊢
            have b4' := Lib.hid b4
            obtain ⟨vals, ad, ca, hown, hv, hap⟩ := hs.out.own
            have hv' := Lib.hid hv; have hap' := Lib.hid hap
            have hvl := Lib.hid (show vals.length = k by simpa using hown.1)
            have hvb := Lib.hid (fun k hk => hown.lt k hk)
            have hown4 := Lib.hid (owns_below' hown b4)
            have hsz0 := hbel.out.size
            have hsz4 := b4.size
            have hJL : (j : Int) + (L : Int) ≤ 1000 := by omega
            clear ho4 hgr4 o4 hol hown hv hap b4 hco
            go_wp2_with (at_builtin; refine wpList_append_lies _ rfl _ _ 42 rfl w3.heap.size 31 j0 (.slice none 0 0) 1 24 Try.underlying42 hj0 hy0 hy1 hy2 rfl (by decide) _ _ _ rfl ((hown4.out.alloc _).alloc _) ⟨w4.heap.size + 1, 0, none⟩ 1 1 [.slice (some ⟨w4.heap.size, 0, none⟩) 2 2] rfl rfl ?c1 ?c2 (by decide) ?c3 ?c4 ?c5 _ rfl ?_)
            try
              case c1 =>
                intro j u hj
                match j, hj with
                | 0, hj =>
                  simp at hj
                  subst hj
                  simp [Addr.add]
            case c2 => first | rfl | (intro u hu; simp at hu; subst hu; rfl)
            case c3 => unfold maxLen; omega
            case c4 => omega
            case c5 => first | omega | (simp; omega)
            intro g6 cap6 w6 hown6 hgrow6 hat6 hlt6
            have hb5 : Below wr.heap.size wr (w4.alloc (.cells #[.int .i64 j, .int .i64 ((j : Int) + L)] 3)) := b4'.out.alloc hsz4 _
            have hro : OwnAt (w4.alloc (.cells #[.int .i64 j, .int .i64 ((j : Int) + L)] 3)) wr.heap.size (some ⟨w4.heap.size, 0, none⟩) 2 (rowG (spansT ts) k) := by
              rw [hrow.out, hL.out, ← hje'.out, show ((j + L : Nat) : Int) = (j : Int) + L by omega]
              exact (own_two _ _).fewer hsz4
            have hfin := RowsSt.next (r := rowG (spansT ts)) hsz0 hv'.out hap'.out hvl.out (by rw [hrow.out]; rfl) hb5 hro hvb.out hown6 hgrow6 hat6 (by simp)
            have hf1 := Lib.hid hfin.1
            have hf2 := Lib.hid ((hbel.out.trans (hb5.mono hbel.out.size)).trans hfin.2)
            clear hown6 hgrow6 hat6 hfin hb5 hro hown4 b4'
            go_wp2_with fail
            go_roundw
            case rel => exact ⟨k + 1, by omega, by go_num, hf1, hf2⟩
            case measure => simp [intOf]; omega
      · have hkn : k = n := by omega
        rw [hkn] at hs
        obtain ⟨A6, c6, rfl, r6⟩ := hs.out.rows
        have r6' := Lib.hid r6
        have u6' := Lib.hid (u3.out.trans (hbel.out.mono u3.out.size))
        clear r6 hkn
        go_wp2_with fail
        go_ret2
        refine ⟨A6, n, c6, by rw [hg'.out]; rfl, by rw [hr.out, spansT_len]; exact hlen.out, ?_, u6'.out⟩
        rw [hr.out]
        obtain ⟨hq⟩ := r6'.out
        have hle := u3.out.size
        exact ⟨fun hp => by
          obtain ⟨g, m, f, e, hB, hm, hrr, ad, ca, h1, h2⟩ := hq hp
          exact ⟨g, m, f, e, by omega, hm, hrr, ad, ca, fun i hi => ⟨(h1 i hi).1, (h1 i hi).2.1.fewer hle, (h1 i hi).2.2⟩, h2⟩⟩
end Go.Proofs.Ytoppgckmcclfpaa
