/- What is proved here: what the model's l1Put does to a slice that a call has made. No conditions. -/
import Derived.Test.YtgdgajgfehjjdaaPut
import Derived.Deep.Onto
import Derived.RangeFuncBox
namespace Go.Proofs.Ytgdgajgfehjjdaa
open Go.RowKit

theorem put_info3 : (Try.prog.info? 3).map (fun i => (i.zero, i.size, i.bytes)) = some (some (.int .i64 0), 1, 8) := by kernel_rfl
theorem put_parts {t : TypeId} {z : Option Value} {s b : Nat} (h : (Try.prog.info? t).map (fun i => (i.zero, i.size, i.bytes)) = some (z, s, b)) : ∃ i, Try.prog.info? t = some i ∧ i.zero = z ∧ i.size = s ∧ i.bytes = b := by
  obtain ⟨i, hi, hzz⟩ := Option.map_eq_some_iff.1 h
  simp only [Prod.mk.injEq] at hzz
  exact ⟨i, hi, hzz⟩
theorem ownsRow_belowW {w w' : World} {base : Nat} {v : Value} {n : Nat} {xs : List Value} (h : w.ownsRow base 3 1 v n xs) (hb : Below w.heap.size w w') : w'.ownsRow base 3 1 v n xs :=
  h.kept (row := none) ⟨hb.os, hb.tape, hb.output, hb.size, fun k hk _ => hb.block k hk⟩ (by cases hv : v.ownBlock <;> simp)

def PutPost (w : World) (base : Nat) (zs : List Int) (e : Ending) (w' : World) : Prop :=
  ∃ v', e = .returned v' ∧ w'.ownsRow base 3 1 v' zs.length (zs.map (Value.int .i64)) ∧ Below w.heap.size w w'

theorem put_cell1 (w : World) (x : Int) : ∀ ad, some (⟨w.heap.size, 0, none⟩ : Addr) = some ad → ∀ j, j < 1 → (w.alloc (.cells #[.int .i64 x] 3)).cell? (ad.add j) = some (.int .i64 ([x][j]?.getD 0)) := by
  intro ad e j hj
  cases e
  have : j = 0 := by omega
  subst this
  exact (Boxed.new w 3 (.int .i64 x)).cell

theorem put_cell2 (w : World) (x : Int) : ∀ ad, some (⟨w.heap.size + 1, 0, none⟩ : Addr) = some ad → ∀ j, j < 1 → ((w.alloc (.cells #[] 3)).alloc (.cells #[.int .i64 x] 3)).cell? (ad.add j) = some (.int .i64 ([x][j]?.getD 0)) := by
  have := put_cell1 (w.alloc (.cells #[] 3)) x
  rwa [World.size_alloc] at this

set_option maxRecDepth 100000 in
set_option maxHeartbeats 1600000 in
theorem l1Put_any (v : Value) (l : List Int) (x : Int) (base : Nat) (w : World) (h : w.ownsRow base 3 1 v l.length (l.map (Value.int .i64))) (hl : l.length ≤ 1000) (hb : base ≤ w.heap.size) :
    Calls Try.prog 134 #[v, .int .i64 x] w (PutPost w base (putL l x)) := by
  obtain ⟨i0, hi, hz0, hz1, hz2⟩ := put_parts put_info3
  have hh := Lib.hid h
  have h0 := Lib.hid (World.ownsRow_made (base := w.heap.size) (e := 3) (size := 1) w #[] 0 (Nat.le_refl _) (by decide) rfl)
  rcases h.2 with ⟨rfl, he⟩ | ⟨g, cap, cur, rfl, hg, hblk, hcap, hmax, _, _⟩
  · have hle : l = [] := List.length_eq_zero_iff.1 he
    subst hle
    have hput := Lib.hid (show putL [] x = [] ++ [x] from rfl)
    clear h he
    go_enter Try.func134, Try.ntmps134
    go_wp2_with fail
    go_loop [5] (fun i => i = .int .i64 0) (fun _ => 0)
    case atStart => rfl
    case round =>
      obtain rfl := hrel
      go_wp2_with (first
        | (at_builtin; refine appendSl _ rfl (.tmp 34) (.tmp 37) 23 rfl w.heap.size i0 Try.underlying23 hi hz0 hz1 hz2 _ [] rfl h0.out none 0 0 [] rfl rfl (fun _ => ⟨rfl, rfl⟩) (fun ad e => by cases e) (by simp) (by simp) ?_; intro v1 w1 o1 g1 a1; have b1 := Lib.hid (((Below.refl w.heap.size w).alloc (Nat.le_refl _) (.cells #[] 3)).grown g1 (by simp) (fun k e => by cases e; exact Nat.le_refl _)); have o1' := Lib.hid o1; have s1 := b1.out.size; clear o1 g1 a1)
        | (at_builtin; refine appendSl _ rfl (.tmp 39) (.tmp 41) 23 rfl w.heap.size i0 Try.underlying23 hi hz0 hz1 hz2 _ [] rfl (o1'.out.alloc _) (some ⟨w1.heap.size, 0, none⟩) 1 1 [x] rfl rfl (fun e => by cases e) (put_cell1 w1 x) (by simp) (by simp; omega) ?_; intro v2 w2 o2 g2 a2; have b2 := Lib.hid ((b1.out.alloc s1 (.cells #[.int .i64 x] 3)).grown g2 (by simp; omega) (fun k e => (o1'.out.lt k e).1)); have o2' := Lib.hid o2; have s2 := b2.out.size; clear o2 g2 a2)
        | (at_builtin; refine appendSl _ rfl (.tmp 43) (.tmp 46) 23 rfl w.heap.size i0 Try.underlying23 hi hz0 hz1 hz2 _ ([] ++ [x]) rfl o2'.out none 0 0 [] rfl rfl (fun _ => ⟨rfl, rfl⟩) (fun ad e => by cases e) (by simp) (by omega) ?_; intro v3 w3 o3 g3 a3; have b3 := Lib.hid (b2.out.grown g3 (by omega) (fun k e => (o2'.out.lt k e).1)); have o3' := Lib.hid o3; clear o3 g3 a3))
      go_ret
      refine ⟨_, rfl, ?_, b3.out⟩
      rw [hput.out]
      have := o3'.out
      rw [List.append_nil] at this
      exact this.mono hb
  · have hcs : ∀ j, j < l.length → w.cell? ⟨g, j, none⟩ = some (.int .i64 (l[j]?.getD 0)) := fun j hj => by
      have := h.cellAt (g := g) j (by simpa using hj)
      rw [this]; simp [hj]
    have hcs' := Lib.hid hcs
    have hgl := (Array.getElem?_eq_some_iff.1 hblk).1
    obtain ⟨n, hn⟩ : ∃ n, Hid (l.length = n) := ⟨_, Lib.hid rfl⟩
    have hk := putK_le l x
    rw [hn.out] at hl hcap hk ⊢
    have hh' := hh
    rw [hn.out] at hh'
    obtain ⟨K, hK⟩ : ∃ K, Hid (putK l x = K) := ⟨_, Lib.hid rfl⟩
    rw [hK.out] at hk
    clear h hblk hcs
    go_enter Try.func134, Try.ntmps134
    go_wp2_with fail
    go_loop [5] (fun i => ∃ j : Nat, j ≤ K ∧ i = .int .i64 j) (fun i => K - (intOf i).toNat)
    case atStart => exact ⟨0, Nat.zero_le _, rfl⟩
    case round =>
      obtain ⟨j, hj, rfl⟩ := hrel
      by_cases hjk : j < K
      · have hjn : j < n := by omega
        have hc := hcs'.out j (by rw [hn.out]; exact hjn)
        have hlt := putK_lt (l := l) (x := x) (j := j) (by rw [hK.out]; exact hjk)
        generalize l[j]?.getD 0 = y at hc hlt
        go_wp2_with fail
        go_round
        case rel => exact ⟨j + 1, by omega, by go_num⟩
        case measure => simp [intOf]; omega
      · have hje : j = K := by omega
        subst hje
        clear hj hjk
        by_cases hjn : j < n
        · have hc := hcs'.out j (by rw [hn.out]; exact hjn)
          have hge := putK_at (l := l) (x := x) (by rw [hK.out, hn.out]; exact hjn)
          rw [hK.out] at hge
          obtain ⟨y, hy⟩ : ∃ y, Hid (l[j]?.getD 0 = y) := ⟨_, Lib.hid rfl⟩
          rw [hy.out] at hc hge
          by_cases hxy : y = x
          · have hput := Lib.hid (show putL l x = l by
              unfold putL; rw [if_pos]; rw [hK.out, List.getElem?_eq_getElem (by rw [hn.out]; exact hjn)]
              have := hy.out; rw [List.getElem?_eq_getElem (by rw [hn.out]; exact hjn), Option.getD_some] at this
              rw [this, hxy])
            have heq : (y == x) = true := by simp [hxy]
            clear hxy
            go_wp2_with fail
            go_ret
            exact ⟨_, rfl, by rw [hput.out, hn.out]; exact hh'.out, Below.refl _ _⟩
          · have hput := Lib.hid (show putL l x = l.take j ++ [x] ++ l.drop j by
              unfold putL; rw [if_neg, hK.out, List.append_assoc]; rfl
              rw [hK.out, List.getElem?_eq_getElem (by rw [hn.out]; exact hjn)]
              have := hy.out; rw [List.getElem?_eq_getElem (by rw [hn.out]; exact hjn), Option.getD_some] at this
              rw [this]; intro e; injection e with e; exact hxy e)
            have heq : (y == x) = false := by simp [hxy]
            clear hxy
            have hjc : j < cap := by omega
            by_cases hj0 : j = 0
            · rw [hj0] at hc
              have hT := Lib.hid (fun t (ht : t < j) => (hcs'.out t (by rw [hn.out]; omega)))
              have hD := Lib.hid (fun t (ht : j + t < n) => (hcs'.out (j + t) (by rw [hn.out]; exact ht)))
              have tl := Lib.hid (show (l.take j).length = j by rw [List.length_take, hn.out]; omega)
              have dl := Lib.hid (show (l.drop j).length = n - j by rw [List.length_drop, hn.out])
              go_wp2_with (first
                | (at_builtin; refine appendSl _ rfl (.tmp 39) (.tmp 41) 23 rfl w.heap.size i0 Try.underlying23 hi hz0 hz1 hz2 _ [] rfl (h0.out.alloc _) (some ⟨w.heap.size + 1, 0, none⟩) 1 1 [x] rfl rfl (fun e => by cases e) (put_cell2 w x) (by simp) (by simp; omega) ?_; intro v2 w2 o2 g2 a2; have b2 := Lib.hid ((((Below.refl w.heap.size w).alloc (Nat.le_refl _) (.cells #[] 3)).alloc (by simp) (.cells #[.int .i64 x] 3)).grown g2 (by simp; omega) (fun k e => by cases e; exact Nat.le_refl _)); have o2' := Lib.hid o2; have s2 := b2.out.size; clear o2 g2 a2)
                | (at_builtin; refine appendSl _ rfl (.tmp 43) (.tmp 46) 23 rfl w.heap.size i0 Try.underlying23 hi hz0 hz1 hz2 _ ([] ++ [x]) rfl o2'.out _ _ _ (l.drop j) (by rw [dl.out]; omega) rfl (fun e => by cases e) (fun ad e t ht => by cases e; rw [Addr.add_lit, List.getElem?_drop]; exact (b2.out.cell (p := ⟨g, 0 + t, none⟩) hgl).trans (by have := hD.out t (by omega); simpa [hj0] using this)) (by simp; omega) (by omega) ?_; intro v3 w3 o3 g3 a3; have b3 := Lib.hid (b2.out.grown g3 (by omega) (fun k e => (o2'.out.lt k e).1)); have o3' := Lib.hid o3; clear o3 g3 a3))
              go_ret
              refine ⟨_, rfl, ?_, b3.out⟩
              rw [hput.out, hj0]
              have := o3'.out
              rw [hj0] at this
              exact this.mono hb
            · have hT := Lib.hid (fun t (ht : t < j) => (hcs'.out t (by rw [hn.out]; omega)))
              have hD := Lib.hid (fun t (ht : j + t < n) => (hcs'.out (j + t) (by rw [hn.out]; exact ht)))
              have tl := Lib.hid (show (l.take j).length = j by rw [List.length_take, hn.out]; omega)
              have dl := Lib.hid (show (l.drop j).length = n - j by rw [List.length_drop, hn.out])
              go_wp2_with (first
                | (at_builtin; refine appendSl _ rfl (.tmp 34) (.tmp 37) 23 rfl w.heap.size i0 Try.underlying23 hi hz0 hz1 hz2 _ [] rfl h0.out _ _ _ (l.take j) tl.out rfl (fun e => by cases e) (fun ad e t ht => by cases e; rw [Addr.add_lit, List.getElem?_take_of_lt (by omega), Nat.zero_add]; exact (((Below.refl w.heap.size w).alloc (Nat.le_refl _) (.cells #[] 3)).cell (p := ⟨g, t, none⟩) hgl).trans (hT.out t (by omega))) (by simp; omega) (by simp) ?_; intro v1 w1 o1 g1 a1; have b1 := Lib.hid (((Below.refl w.heap.size w).alloc (Nat.le_refl _) (.cells #[] 3)).grown g1 (by simp) (fun k e => by cases e; exact Nat.le_refl _)); have o1' := Lib.hid o1; have s1 := b1.out.size; clear o1 g1 a1)
                | (at_builtin; refine appendSl _ rfl (.tmp 39) (.tmp 41) 23 rfl w.heap.size i0 Try.underlying23 hi hz0 hz1 hz2 _ ([] ++ l.take j) rfl (o1'.out.alloc _) (some ⟨w1.heap.size, 0, none⟩) 1 1 [x] rfl rfl (fun e => by cases e) (put_cell1 w1 x) (by rw [List.nil_append, tl.out]; omega) (by simp; omega) ?_; intro v2 w2 o2 g2 a2; have b2 := Lib.hid ((b1.out.alloc s1 (.cells #[.int .i64 x] 3)).grown g2 (by simp; omega) (fun k e => (o1'.out.lt k e).1)); have o2' := Lib.hid o2; have s2 := b2.out.size; clear o2 g2 a2)
                | (at_builtin; refine appendSl _ rfl (.tmp 43) (.tmp 46) 23 rfl w.heap.size i0 Try.underlying23 hi hz0 hz1 hz2 _ ([] ++ l.take j ++ [x]) rfl o2'.out _ _ _ (l.drop j) dl.out rfl (fun e => by cases e) (fun ad e t ht => by cases e; rw [Addr.add_lit, List.getElem?_drop]; exact (b2.out.cell (p := ⟨g, j + t, none⟩) hgl).trans (hD.out t (by omega))) (by rw [List.length_append, List.nil_append, tl.out]; simp; omega) (by omega) ?_; intro v3 w3 o3 g3 a3; have b3 := Lib.hid (b2.out.grown g3 (by omega) (fun k e => (o2'.out.lt k e).1)); have o3' := Lib.hid o3; clear o3 g3 a3))
              go_ret
              refine ⟨_, rfl, ?_, b3.out⟩
              rw [hput.out]
              have := o3'.out
              rw [List.nil_append] at this
              exact this.mono hb
        · have hjn' : j = n := by omega
          have hput := Lib.hid (show putL l x = l.take j ++ [x] ++ l.drop j by
            unfold putL; rw [if_neg, hK.out, List.append_assoc]; rfl
            rw [hK.out, List.getElem?_eq_none (by rw [hn.out]; omega)]; intro e; cases e)
          have hjc : j ≤ cap := by omega
          have hge0 : j ≤ n := by omega
          by_cases hj0 : j = 0
          · have hn0 : n = 0 := by omega
            subst hn0
            subst hj0
            clear hjn' hge0 hjn
            have e0 : l = [] := List.length_eq_zero_iff.1 hn.out
            subst e0
            go_wp2_with (first
              | (at_builtin; refine appendSl _ rfl (.tmp 39) (.tmp 41) 23 rfl w.heap.size i0 Try.underlying23 hi hz0 hz1 hz2 _ [] rfl (h0.out.alloc _) (some ⟨w.heap.size + 1, 0, none⟩) 1 1 [x] rfl rfl (fun e => by cases e) (put_cell2 w x) (by simp) (by simp; omega) ?_; intro v2 w2 o2 g2 a2; have b2 := Lib.hid ((((Below.refl w.heap.size w).alloc (Nat.le_refl _) (.cells #[] 3)).alloc (by simp) (.cells #[.int .i64 x] 3)).grown g2 (by simp; omega) (fun k e => by cases e; exact Nat.le_refl _)); have o2' := Lib.hid o2; have s2 := b2.out.size; clear o2 g2 a2)
              | (at_builtin; refine appendSl _ rfl (.tmp 43) (.tmp 46) 23 rfl w.heap.size i0 Try.underlying23 hi hz0 hz1 hz2 _ ([] ++ [x]) rfl o2'.out _ _ _ [] rfl rfl (fun e => by cases e) (fun ad e t ht => absurd ht (Nat.not_lt_zero _)) (by simp) (by omega) ?_; intro v3 w3 o3 g3 a3; have b3 := Lib.hid (b2.out.grown g3 (by omega) (fun k e => (o2'.out.lt k e).1)); have o3' := Lib.hid o3; clear o3 g3 a3))
            go_ret
            refine ⟨_, rfl, ?_, b3.out⟩
            rw [hput.out]
            exact o3'.out.mono hb
          · by_cases hjc2 : j < cap
            · have hT := Lib.hid (fun t (ht : t < j) => (hcs'.out t (by rw [hn.out]; omega)))
              have hD := Lib.hid (fun t (ht : j + t < n) => (hcs'.out (j + t) (by rw [hn.out]; exact ht)))
              have tl := Lib.hid (show (l.take j).length = j by rw [List.length_take, hn.out]; omega)
              have dl := Lib.hid (show (l.drop j).length = n - j by rw [List.length_drop, hn.out])
              go_wp2_with (first
                | (at_builtin; refine appendSl _ rfl (.tmp 34) (.tmp 37) 23 rfl w.heap.size i0 Try.underlying23 hi hz0 hz1 hz2 _ [] rfl h0.out _ _ _ (l.take j) (by rw [tl.out]; omega) rfl (fun e => by cases e) (fun ad e t ht => by cases e; rw [Addr.add_lit, List.getElem?_take_of_lt (by omega), Nat.zero_add]; exact (((Below.refl w.heap.size w).alloc (Nat.le_refl _) (.cells #[] 3)).cell (p := ⟨g, t, none⟩) hgl).trans (hT.out t (by omega))) (by simp; omega) (by simp) ?_; intro v1 w1 o1 g1 a1; have b1 := Lib.hid (((Below.refl w.heap.size w).alloc (Nat.le_refl _) (.cells #[] 3)).grown g1 (by simp) (fun k e => by cases e; exact Nat.le_refl _)); have o1' := Lib.hid o1; have s1 := b1.out.size; clear o1 g1 a1)
                | (at_builtin; refine appendSl _ rfl (.tmp 39) (.tmp 41) 23 rfl w.heap.size i0 Try.underlying23 hi hz0 hz1 hz2 _ ([] ++ l.take j) rfl (o1'.out.alloc _) (some ⟨w1.heap.size, 0, none⟩) 1 1 [x] rfl rfl (fun e => by cases e) (put_cell1 w1 x) (by rw [List.nil_append, tl.out]; omega) (by simp; omega) ?_; intro v2 w2 o2 g2 a2; have b2 := Lib.hid ((b1.out.alloc s1 (.cells #[.int .i64 x] 3)).grown g2 (by simp; omega) (fun k e => (o1'.out.lt k e).1)); have o2' := Lib.hid o2; have s2 := b2.out.size; clear o2 g2 a2)
                | (at_builtin; refine appendSl _ rfl (.tmp 43) (.tmp 46) 23 rfl w.heap.size i0 Try.underlying23 hi hz0 hz1 hz2 _ ([] ++ l.take j ++ [x]) rfl o2'.out _ _ _ (l.drop j) (by rw [dl.out]; omega) rfl (fun e => by cases e) (fun ad e t ht => by exact absurd ht (by omega)) (by rw [List.length_append, List.nil_append, tl.out]; simp; omega) (by omega) ?_; intro v3 w3 o3 g3 a3; have b3 := Lib.hid (b2.out.grown g3 (by omega) (fun k e => (o2'.out.lt k e).1)); have o3' := Lib.hid o3; clear o3 g3 a3))
              go_ret
              refine ⟨_, rfl, ?_, b3.out⟩
              rw [hput.out]
              have := o3'.out
              rw [List.nil_append] at this
              exact this.mono hb
            · have hjc3 : cap = j := by omega
              have hT := Lib.hid (fun t (ht : t < j) => (hcs'.out t (by rw [hn.out]; omega)))
              have hD := Lib.hid (fun t (ht : j + t < n) => (hcs'.out (j + t) (by rw [hn.out]; exact ht)))
              have tl := Lib.hid (show (l.take j).length = j by rw [List.length_take, hn.out]; omega)
              have dl := Lib.hid (show (l.drop j).length = n - j by rw [List.length_drop, hn.out])
              go_wp2_with (first
                | (at_builtin; refine appendSl _ rfl (.tmp 34) (.tmp 37) 23 rfl w.heap.size i0 Try.underlying23 hi hz0 hz1 hz2 _ [] rfl h0.out _ _ _ (l.take j) (by rw [tl.out]; omega) rfl (fun e => by cases e) (fun ad e t ht => by cases e; rw [Addr.add_lit, List.getElem?_take_of_lt (by omega), Nat.zero_add]; exact (((Below.refl w.heap.size w).alloc (Nat.le_refl _) (.cells #[] 3)).cell (p := ⟨g, t, none⟩) hgl).trans (hT.out t (by omega))) (by simp; omega) (by simp) ?_; intro v1 w1 o1 g1 a1; have b1 := Lib.hid (((Below.refl w.heap.size w).alloc (Nat.le_refl _) (.cells #[] 3)).grown g1 (by simp) (fun k e => by cases e; exact Nat.le_refl _)); have o1' := Lib.hid o1; have s1 := b1.out.size; clear o1 g1 a1)
                | (at_builtin; refine appendSl _ rfl (.tmp 39) (.tmp 41) 23 rfl w.heap.size i0 Try.underlying23 hi hz0 hz1 hz2 _ ([] ++ l.take j) rfl (o1'.out.alloc _) (some ⟨w1.heap.size, 0, none⟩) 1 1 [x] rfl rfl (fun e => by cases e) (put_cell1 w1 x) (by rw [List.nil_append, tl.out]; omega) (by simp; omega) ?_; intro v2 w2 o2 g2 a2; have b2 := Lib.hid ((b1.out.alloc s1 (.cells #[.int .i64 x] 3)).grown g2 (by simp; omega) (fun k e => (o1'.out.lt k e).1)); have o2' := Lib.hid o2; have s2 := b2.out.size; clear o2 g2 a2)
                | (at_builtin; refine appendSl _ rfl (.tmp 43) (.tmp 46) 23 rfl w.heap.size i0 Try.underlying23 hi hz0 hz1 hz2 _ ([] ++ l.take j ++ [x]) rfl o2'.out _ _ _ (l.drop j) (by rw [dl.out]; omega) rfl (fun e => by cases e) (fun ad e t ht => by exact absurd ht (by omega)) (by rw [List.length_append, List.nil_append, tl.out]; simp; omega) (by omega) ?_; intro v3 w3 o3 g3 a3; have b3 := Lib.hid (b2.out.grown g3 (by omega) (fun k e => (o2'.out.lt k e).1)); have o3' := Lib.hid o3; clear o3 g3 a3))
              go_ret
              refine ⟨_, rfl, ?_, b3.out⟩
              rw [hput.out]
              have := o3'.out
              rw [List.nil_append] at this
              exact this.mono hb
end Go.Proofs.Ytgdgajgfehjjdaa
