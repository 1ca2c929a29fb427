/- What is proved here: what the model's draws of trees return, at every slice of bytes. No conditions beside the slice's length. -/
import Derived.Test.YthiegfbdmmpababLawHelp
import Derived.Test.YthiegfbdmmpababBlocks
import Derived.Deep.RegionLaw
import Derived.Deep.AppendLies
import Derived.Test.YthiegfbdmmpababTreeSpec
namespace Go.Proofs.Ythiegfbdmmpabab
open Go.RowKit

def isInt (u : Value) : Prop := ∃ z : Int, u = .int .i64 z
/-- A slice of k blocks of a call's own. -/
def TreeOwn (w : World) (B : Nat) (v : Value) (k : Nat) : Prop := ∃ xs : List Value, w.ownsRow B 37 2 v k xs ∧ ∀ u ∈ xs, isInt u
theorem owns_only {w w' : World} {base g : Nat} {e : TypeId} {size : Nat} {v : Value} {n : Nat} {xs : List Value} (h : w.ownsRow base e size v n xs) (ho : Only (some ⟨g, 0, none⟩) w w') (hg : g < base) : w'.ownsRow base e size v n xs := by
  obtain ⟨hl, hh⟩ := h
  refine ⟨hl, ?_⟩
  rcases hh with h | ⟨g', cap, cur, e, hB, hblk, hn, hm, hc, ht⟩
  · exact .inl h
  · exact .inr ⟨g', cap, cur, e, hB, (ho.block g' (fun ad e => by cases e; show g' ≠ g; omega)).trans hblk, hn, hm, hc, ht⟩
theorem rowIs_onlyT {w w' : World} {g b : Nat} {t : TypeId} {n : Nat} {f : Nat → Value} (h : w.rowIs b t n f) (ho : Only (some ⟨g, 0, none⟩) w w') (hg : g < b) : w'.rowIs b t n f :=
  h.of_block (ho.block b (fun ad e => by cases e; show b ≠ g; omega))
theorem TreeOwn.only {w w' : World} {B g k : Nat} {v : Value} (h : TreeOwn w B v k) (ho : Only (some ⟨g, 0, none⟩) w w') (hg : g < B) : TreeOwn w' B v k := by
  obtain ⟨xs, h1, h2⟩ := h
  exact ⟨xs, owns_only h1 ho hg, h2⟩
/-- What it looks like. -/
theorem TreeOwn.row {w : World} {B k : Nat} {v : Value} (h : TreeOwn w B v k) (hk : 0 < k) : ∃ g cap f, v = .slice (some ⟨g, 0, none⟩) k cap ∧ B ≤ g ∧ k ≤ cap ∧ w.rowIs g 37 (cap * 2) f ∧ ∀ i, i < k * 2 → isInt (f i) := by
  obtain ⟨xs, ⟨hl, hh⟩, hx⟩ := h
  rcases hh with ⟨_, h0⟩ | ⟨g, cap, cur, rfl, hB, hblk, hn, hm, hc, ht⟩
  · omega
  · refine ⟨g, cap, fun i => cur[i]?.getD undef, rfl, hB, hn, ⟨cur, hblk, hc, fun i hi => ?_⟩, fun i hi => ?_⟩
    · show cur[i]? = some (cur[i]?.getD undef)
      rw [Array.getElem?_eq_getElem (show i < cur.size by omega), Option.getD_some]
    · have hi2 : i < xs.length := by omega
      have e1 : (cur.toList.take (k * 2))[i]? = xs[i]? := by rw [ht]
      rw [List.getElem?_take_of_lt (by omega), Array.getElem?_toList, List.getElem?_eq_getElem hi2] at e1
      show isInt (cur[i]?.getD undef)
      rw [e1]
      exact hx _ (List.getElem_mem hi2)
/-- A row of integers, two by two, reads as blocks. -/
theorem blks_of_row {w : World} {g k m : Nat} {f : Nat → Value} (hr : w.rowIs g 37 m f) (hm : k * 2 ≤ m) (hf : ∀ i, i < k * 2 → isInt (f i)) : ∃ ts, BlksAt w w.heap.size (some ⟨g, 0, none⟩) k ts := by
  refine ⟨(List.range k).map fun i => (intOf (f (i * 2)), intOf (f (i * 2 + 1))), by simp, fun i hi => ⟨g, 0, rfl, hr.lt, ?_, ?_⟩⟩
  · obtain ⟨z, hz⟩ := hf (i * 2) (by omega)
    rw [Nat.zero_add, hr.cell (by omega), hz]; simp [hi, hz, intOf]
  · obtain ⟨z, hz⟩ := hf (i * 2 + 1) (by omega)
    rw [Nat.zero_add, hr.cell (by omega), hz]; simp [hi, hz, intOf]

def TreePost (w : World) (g B lim : Nat) (e : Ending) (w' : World) : Prop :=
  ∃ A k c ts, e = .returned (.slice A k c) ∧ BlksAt w' w'.heap.size A k ts ∧ (∀ ad, A = some ad → w.heap.size ≤ ad.block) ∧ 1 ≤ k ∧ k ≤ 25 ∧ CurOk w' g B (lim + 200) ∧ Grew g w.heap.size w w'

set_option maxRecDepth 100000 in
set_option maxHeartbeats 1600000 in
theorem tree_any (g B lim : Nat) (w : World) (h : CurOk w g B lim) (hB : B ≤ w.heap.size) (hlim : lim ≤ 274877906944) :
    Calls Try.prog 66 #[.pointer (some ⟨g, 0, none⟩)] w (TreePost w g B lim) := by
  have hgB := h.1
  obtain ⟨i0, hi0, hz0, hz1, hz2⟩ := info_parts infoBlk
  have hc0 := Lib.hid (h.below (((Below.refl B w).alloc hB (.cells #[.int .i64 (-1), .int .i64 0] 37))))
  have ht0 := Lib.hid (show TreeOwn (w.alloc (.cells #[.int .i64 (-1), .int .i64 0] 37)) w.heap.size (.slice (some ⟨w.heap.size, 0, none⟩) 1 1) 1 from ⟨[.int .i64 (-1), .int .i64 0], ⟨rfl, .inr ⟨w.heap.size, 1, _, rfl, Nat.le_refl _, heap_alloc_new _ _, Nat.le_refl _, by decide, rfl, rfl⟩⟩, fun u hu => by simp at hu; rcases hu with rfl | rfl <;> exact ⟨_, rfl⟩⟩)
  have hg0 := Lib.hid (show Grew g w.heap.size w (w.alloc (.cells #[.int .i64 (-1), .int .i64 0] 37)) from (Grew.refl _ _ _).alloc (Nat.le_refl _) _)
  clear h
  go_enter Try.func66, Try.ntmps66
  go_wp2_with fail
  generalize w.alloc (.cells #[.int .i64 (-1), .int .i64 0] 37) = w1 at hc0 ht0 hg0 ⊢
  refine (pick_any g B lim 12 w1 hc0.out (by omega) (by decide)).mono ?_
  rintro e w2 ⟨x, rfl, x0, x1, c2, o2⟩
  have hx : 0 ≤ x ∧ x ≤ 24 := by omega
  have ht2 := Lib.hid (ht0.out.only o2 (by omega))
  have hg2 := Lib.hid (hg0.out.trans (Grew.of_only o2))
  have hc2 := Lib.hid c2
  clear x0 x1 o2 c2 hc0 ht0 hg0
  go_wp2_with fail
  refine (one_any g B (lim + 2) 20 w2 hc2.out (by omega) (by decide)).mono ?_
  rintro e w3 ⟨b, rfl, c3, o3⟩
  have ht3 := Lib.hid (ht2.out.only o3 (by omega))
  have hg3 := Lib.hid (hg2.out.trans (Grew.of_only o3))
  have hc3 := Lib.hid c3
  clear o3 c3 hc2 ht2 hg2
  cases b
  · obtain ⟨j, rfl⟩ := Int.eq_ofNat_of_zero_le hx.1
    have hj24 : j ≤ 24 := by omega
    clear hx
    go_wp2_with fail
    go_loopw [3, 4] (fun v m wr => ∃ (j k : Nat), m = .int .i64 j ∧ j + k ≤ 25 ∧ 1 ≤ k ∧ Hid (TreeOwn wr w.heap.size v k) ∧ Hid (CurOk wr g B (lim + 6 * k)) ∧ Hid (Grew g w.heap.size w wr)) (fun _ m _ => (intOf m).toNat)
    case atStart => exact ⟨j, 1, rfl, by omega, by omega, ht3, Lib.hid (hc3.out.more (by omega)), hg3⟩
    case round =>
      obtain ⟨j, k, rfl, hjk, hk1, ht, hc, hg⟩ := hrel
      obtain ⟨gt, cap, f, rfl, hge, hkc, hrow, hf⟩ := ht.out.row (by omega)
      have hsz := hg.out.size
      by_cases hj : 0 < j
      · have hj' : (0 : Int) < (j : Int) := by omega
        clear hrow hf
        go_wp2_with fail
        refine (one_any g B (lim + 6 * k) 2 wr hc.out (by omega) (by decide)).mono ?_
        rintro e w5 ⟨b, rfl, c5, o5⟩
        have ht5 := Lib.hid (ht.out.only o5 (by omega))
        have hg5 := Lib.hid (hg.out.trans (Grew.of_only o5))
        have hc5 := Lib.hid c5
        clear o5 c5 ht hc hg
        cases b
        · obtain ⟨gt2, cap2, f, e2, _, _, hrow, hf⟩ := ht5.out.row (by omega)
          cases e2
          obtain ⟨q, hq⟩ : ∃ q : Nat, q + 1 = k := ⟨k - 1, by omega⟩
          have hqe := Lib.hid (show ((k : Int) - 1) = (q : Int) by omega)
          have hqk : q < k := by omega
          clear hq
          rw [hqe.out]
          obtain ⟨z, hz⟩ := hf (q * 2 + 1) (by omega)
          have c1 := hrow.cell (i := q * 2 + 1) (by omega)
          rw [hz] at c1
          have hz' := Lib.hid hz
          obtain ⟨xs, hxo, hxi⟩ := ht5.out
          have hxo' := Lib.hid hxo; have hxi' := Lib.hid hxi
          have hr' := Lib.hid hrow
          clear hxo hxi hf hz hrow
          go_wp2_with fail
          go_region_law (first
            | (refine step_append_lies _ rfl (.tmp 28) (.tmp 40) 23 rfl w.heap.size 37 i0 _ 2 16 Try.underlying23 hi0 hz0 hz1 hz2 rfl (by decide) _ k xs rfl (hx7.out.alloc _) ⟨w7.heap.size, 0, none⟩ 1 1 _ rfl rfl (World.news_of_block (heap_alloc_new _ _)) (by intro u hu; simp at hu; rcases hu with rfl | rfl <;> rfl) (by decide) (by unfold maxLen; omega) (by omega) (by have := hs7.out; simp; omega) _ rfl ?_; intro g8 cap8 w8 hown8 hgrow8 _ _)
            | (go_simp; go_at_call 69; refine (pick_any g B (lim + 6 * k + 2) 3 _ (show CurOk w5.drew g B (lim + 6 * k + 2) from hc5.out) (by omega) (by decide)).mono ?_; rintro e w7 ⟨y, rfl, y0, y1, cu7, on7⟩; have hx7 := Lib.hid (owns_only hxo'.out (show Only (some ⟨g, 0, none⟩) w5 w7 from ⟨on7.os, on7.tape, on7.output, on7.size, on7.block⟩) (by omega)); have c1 := (rowIs_onlyT hr'.out (show Only (some ⟨g, 0, none⟩) w5 w7 from ⟨on7.os, on7.tape, on7.output, on7.size, on7.block⟩) (by omega)).cell (i := q * 2 + 1) (by omega); rw [hz'.out] at c1; have hg7 := Lib.hid (hg5.out.trans (Grew.of_only (show Only (some ⟨g, 0, none⟩) w5 w7 from ⟨on7.os, on7.tape, on7.output, on7.size, on7.block⟩))); have hc7 := Lib.hid cu7; have hs7 := Lib.hid hg7.out.size; clear cu7 on7))
          all_goals
            have hb8 : Below w.heap.size w7 w8 := ((Below.refl w.heap.size w7).alloc hs7.out _).grown hgrow8 (by have := hs7.out; simp; omega) (fun g hg => (hx7.out.lt g hg).1)
            have t8 := Lib.hid (show TreeOwn w8 w.heap.size (.slice (some ⟨g8, 0, none⟩) (k + 1) cap8) (k + 1) from ⟨_, hown8, fun u hu => by
              rw [List.mem_append] at hu
              rcases hu with h | h
              · exact hxi'.out u h
              · simp at h
                rcases h with rfl | rfl <;> exact ⟨_, rfl⟩⟩)
            have c8 := Lib.hid (hc7.out.below (hb8.mono hB))
            have gr8 := Lib.hid (hg7.out.trans (Grew.of_below hb8))
            clear hown8 hgrow8 hb8 c1
            go_simp
            go_wp2_with fail
            go_roundw
            case rel => exact ⟨j - 1, k + 1, by go_num, by omega, by omega, t8, Lib.hid (c8.out.more (by omega)), gr8⟩
            case measure => simp [intOf]; omega
        · go_wp2_with fail
          refine (pick_any g B (lim + 6 * k + 2) k w5 hc5.out (by omega) (by omega)).mono ?_
          rintro e w6 ⟨q0, rfl, q1, q2, c6, o6⟩
          obtain ⟨q, rfl⟩ := Int.eq_ofNat_of_zero_le q1
          have hqk : q < k := by omega
          have ht6 := Lib.hid (ht5.out.only o6 (by omega))
          have hg6 := Lib.hid (hg5.out.trans (Grew.of_only o6))
          have hc6 := Lib.hid c6
          clear o6 c6 ht5 hc5 hg5 q1 q2
          obtain ⟨gt2, cap2, f, e2, _, _, hrow, hf⟩ := ht6.out.row (by omega)
          cases e2
          obtain ⟨z, hz⟩ := hf (q * 2 + 1) (by omega)
          have c1 := hrow.cell (i := q * 2 + 1) (by omega)
          rw [hz] at c1
          have hz' := Lib.hid hz
          obtain ⟨xs, hxo, hxi⟩ := ht6.out
          have hxo' := Lib.hid hxo; have hxi' := Lib.hid hxi
          have hr' := Lib.hid hrow
          clear hxo hxi hf hz hrow
          go_wp2_with fail
          go_region_law (first
            | (refine step_append_lies _ rfl (.tmp 28) (.tmp 40) 23 rfl w.heap.size 37 i0 _ 2 16 Try.underlying23 hi0 hz0 hz1 hz2 rfl (by decide) _ k xs rfl (hx7.out.alloc _) ⟨w7.heap.size, 0, none⟩ 1 1 _ rfl rfl (World.news_of_block (heap_alloc_new _ _)) (by intro u hu; simp at hu; rcases hu with rfl | rfl <;> rfl) (by decide) (by unfold maxLen; omega) (by omega) (by have := hs7.out; simp; omega) _ rfl ?_; intro g8 cap8 w8 hown8 hgrow8 _ _)
            | (go_simp; go_at_call 69; refine (pick_any g B (lim + 6 * k + 2 + 2) 3 _ (show CurOk w6.drew g B (lim + 6 * k + 2 + 2) from hc6.out) (by omega) (by decide)).mono ?_; rintro e w7 ⟨y, rfl, y0, y1, cu7, on7⟩; have hx7 := Lib.hid (owns_only hxo'.out (show Only (some ⟨g, 0, none⟩) w6 w7 from ⟨on7.os, on7.tape, on7.output, on7.size, on7.block⟩) (by omega)); have c1 := (rowIs_onlyT hr'.out (show Only (some ⟨g, 0, none⟩) w6 w7 from ⟨on7.os, on7.tape, on7.output, on7.size, on7.block⟩) (by omega)).cell (i := q * 2 + 1) (by omega); rw [hz'.out] at c1; have hg7 := Lib.hid (hg6.out.trans (Grew.of_only (show Only (some ⟨g, 0, none⟩) w6 w7 from ⟨on7.os, on7.tape, on7.output, on7.size, on7.block⟩))); have hc7 := Lib.hid cu7; have hs7 := Lib.hid hg7.out.size; clear cu7 on7))
          all_goals
            have hb8 : Below w.heap.size w7 w8 := ((Below.refl w.heap.size w7).alloc hs7.out _).grown hgrow8 (by have := hs7.out; simp; omega) (fun g hg => (hx7.out.lt g hg).1)
            have t8 := Lib.hid (show TreeOwn w8 w.heap.size (.slice (some ⟨g8, 0, none⟩) (k + 1) cap8) (k + 1) from ⟨_, hown8, fun u hu => by
              rw [List.mem_append] at hu
              rcases hu with h | h
              · exact hxi'.out u h
              · simp at h
                rcases h with rfl | rfl <;> exact ⟨_, rfl⟩⟩)
            have c8 := Lib.hid (hc7.out.below (hb8.mono hB))
            have gr8 := Lib.hid (hg7.out.trans (Grew.of_below hb8))
            clear hown8 hgrow8 hb8 c1
            go_simp
            go_wp2_with fail
            go_roundw
            case rel => exact ⟨j - 1, k + 1, by go_num, by omega, by omega, t8, Lib.hid (c8.out.more (by omega)), gr8⟩
            case measure => simp [intOf]; omega
      · have hj' : ¬ (0 : Int) < (j : Int) := by omega
        obtain ⟨q, hq⟩ : ∃ q : Nat, q + 1 = k := ⟨k - 1, by omega⟩
        have hqe := Lib.hid (show ((k : Int) - 1) = (q : Int) by omega)
        have hqk : q < k := by omega
        have hrow' := Lib.hid hrow; have hf' := Lib.hid hf
        clear hq hrow hf ht
        go_wp2_with fail
        refine (pick_any g B (lim + 6 * k) 30 wr hc.out (by omega) (by decide)).mono ?_
        rintro e w5 ⟨x, rfl, x0, x1, c5, o5⟩
        have hr5 := Lib.hid (rowIs_onlyT hrow'.out o5 (by omega))
        have hg5 := Lib.hid (hg.out.trans (Grew.of_only o5))
        have hc5 := Lib.hid c5
        have hs5 := hg5.out.size
        clear c5 o5 hrow' hg hc
        by_cases h0 : x = 0
        · subst h0
          go_wp2_with fail
          rw [hqe.out]
          refine (among_any g B (lim + 6 * k + 2) 3 3 (w5.heap.size + 1) _ [0, 4000, 4001] _ (hc5.out.below ((Below.refl B w5).alloc (by omega) _)) (by omega) (three_ints w5 0 4000 4001 3) (by decide) (by decide) (fun ad e => by cases e; exact Nat.ne_of_gt (by show g < w5.heap.size; omega))).mono ?_
          rintro e w6 ⟨i, hi, rfl, c6, o6⟩
          have hr6 := rowIs_onlyT (hr5.out.alloc _) o6 (by omega)
          have hg6 := Lib.hid ((hg5.out.alloc hs5 _).trans (Grew.of_only o6))
          have hc6 := Lib.hid c6
          generalize ([0, 4000, 4001] : List Int)[i]?.getD 0 = z
          have c1 := hr6.cell (i := q * 2 + 1) (by omega)
          have f1 := hr6.frozen (q * 2 + 1)
          have hr6' := Lib.hid hr6
          clear hr6 c6 o6
          go_wp2_with fail
          go_ret
          obtain ⟨ts, hts⟩ := blks_of_row (k := k) (hr6'.out.set (q * 2 + 1) (.int .i64 z)) (by omega) (fun i hi => by
            by_cases e : i = q * 2 + 1
            · exact ⟨z, by rw [if_pos e]⟩
            · obtain ⟨y, hy⟩ := hf'.out i hi
              exact ⟨y, by rw [if_neg e, hy]⟩)
          have hbs : Below w.heap.size w6 (w6.setCell ⟨gt, q * 2 + 1, none⟩ (.int .i64 z)) := (Below.refl _ _).setCell hge _
          exact ⟨_, _, _, ts, rfl, hts, fun ad e => by cases e; exact hge, hk1, by omega, (hc6.out.below (hbs.mono hB)).more (by omega), hg6.out.trans (Grew.of_below hbs)⟩
        · have hx0 : (x == 0) = false := by simp; exact h0
          by_cases h1 : x = 1
          · subst h1
            clear hx0 h0
            go_wp2_with fail
            rw [hqe.out]
            refine (pick_any g B (lim + 6 * k + 2) 4 w5 hc5.out (by omega) (by decide)).mono ?_
            rintro e w6 ⟨y, rfl, y0, y1, c6, o6⟩
            have hr6 := rowIs_onlyT hr5.out o6 (by omega)
            have hg6 := Lib.hid (hg5.out.trans (Grew.of_only o6))
            have hc6 := Lib.hid c6
            have hy4 : y ≤ 3 := by omega
            have c1 := hr6.cell (i := q * 2) (by omega)
            have f1 := hr6.frozen (q * 2)
            have hr6' := Lib.hid hr6
            clear hr6 c6 o6 y1
            go_wp2_with fail
            go_ret
            obtain ⟨ts, hts⟩ := blks_of_row (k := k) (hr6'.out.set (q * 2) (.int .i64 (y - 1))) (by omega) (fun i hi => by
              by_cases e : i = q * 2
              · exact ⟨y - 1, by rw [if_pos e]⟩
              · obtain ⟨y, hy⟩ := hf'.out i hi
                exact ⟨y, by rw [if_neg e, hy]⟩)
            have hbs : Below w.heap.size w6 (w6.setCell ⟨gt, q * 2, none⟩ (.int .i64 (y - 1))) := (Below.refl _ _).setCell hge _
            exact ⟨_, _, _, ts, rfl, hts, fun ad e => by cases e; exact hge, hk1, by omega, (hc6.out.below (hbs.mono hB)).more (by omega), hg6.out.trans (Grew.of_below hbs)⟩
          · have hx1 : (x == 1) = false := by simp; exact h1
            go_wp2_with fail
            go_ret
            obtain ⟨ts, hts⟩ := blks_of_row (k := k) hr5.out (by omega) hf'.out
            exact ⟨_, _, _, ts, rfl, hts, fun ad e => by cases e; exact hge, hk1, by omega, hc5.out.more (by omega), hg5.out⟩
  · go_wp2_with fail
    refine (pick_any g B (lim + 2 + 2) 2 w3 hc3.out (by omega) (by decide)).mono ?_
    rintro e w4 ⟨y, rfl, y0, y1, c4, o4⟩
    have ht4 := Lib.hid (ht3.out.only o4 (by omega))
    have hg4 := Lib.hid (hg3.out.trans (Grew.of_only o4))
    have hc4 := Lib.hid c4
    have hy2 : y ≤ 1 := by omega
    clear o4 c4 hc3 ht3 hg3 y1 hx
    obtain ⟨y', rfl⟩ := Int.eq_ofNat_of_zero_le y0
    obtain ⟨j, hj0⟩ : ∃ j : Nat, j = 23 + y' := ⟨_, rfl⟩
    have hj24 : j ≤ 24 := by omega
    have hje := Lib.hid (show (23 : Int) + (y' : Int) = (j : Int) by omega)
    clear hj0
    go_wp2_with fail
    rw [hje.out]
    go_loopw [3, 4] (fun v m wr => ∃ (j k : Nat), m = .int .i64 j ∧ j + k ≤ 25 ∧ 1 ≤ k ∧ Hid (TreeOwn wr w.heap.size v k) ∧ Hid (CurOk wr g B (lim + 6 * k)) ∧ Hid (Grew g w.heap.size w wr)) (fun _ m _ => (intOf m).toNat)
    case atStart => exact ⟨j, 1, rfl, by omega, by omega, ht4, Lib.hid (hc4.out.more (by omega)), hg4⟩
    case round =>
      obtain ⟨j, k, rfl, hjk, hk1, ht, hc, hg⟩ := hrel
      obtain ⟨gt, cap, f, rfl, hge, hkc, hrow, hf⟩ := ht.out.row (by omega)
      have hsz := hg.out.size
      by_cases hj : 0 < j
      · have hj' : (0 : Int) < (j : Int) := by omega
        clear hrow hf
        go_wp2_with fail
        refine (one_any g B (lim + 6 * k) 2 wr hc.out (by omega) (by decide)).mono ?_
        rintro e w5 ⟨b, rfl, c5, o5⟩
        have ht5 := Lib.hid (ht.out.only o5 (by omega))
        have hg5 := Lib.hid (hg.out.trans (Grew.of_only o5))
        have hc5 := Lib.hid c5
        clear o5 c5 ht hc hg
        cases b
        · obtain ⟨gt2, cap2, f, e2, _, _, hrow, hf⟩ := ht5.out.row (by omega)
          cases e2
          obtain ⟨q, hq⟩ : ∃ q : Nat, q + 1 = k := ⟨k - 1, by omega⟩
          have hqe := Lib.hid (show ((k : Int) - 1) = (q : Int) by omega)
          have hqk : q < k := by omega
          clear hq
          rw [hqe.out]
          obtain ⟨z, hz⟩ := hf (q * 2 + 1) (by omega)
          have c1 := hrow.cell (i := q * 2 + 1) (by omega)
          rw [hz] at c1
          have hz' := Lib.hid hz
          obtain ⟨xs, hxo, hxi⟩ := ht5.out
          have hxo' := Lib.hid hxo; have hxi' := Lib.hid hxi
          have hr' := Lib.hid hrow
          clear hxo hxi hf hz hrow
          go_wp2_with fail
          go_region_law (first
            | (refine step_append_lies _ rfl (.tmp 28) (.tmp 40) 23 rfl w.heap.size 37 i0 _ 2 16 Try.underlying23 hi0 hz0 hz1 hz2 rfl (by decide) _ k xs rfl (hx7.out.alloc _) ⟨w7.heap.size, 0, none⟩ 1 1 _ rfl rfl (World.news_of_block (heap_alloc_new _ _)) (by intro u hu; simp at hu; rcases hu with rfl | rfl <;> rfl) (by decide) (by unfold maxLen; omega) (by omega) (by have := hs7.out; simp; omega) _ rfl ?_; intro g8 cap8 w8 hown8 hgrow8 _ _)
            | (go_simp; go_at_call 69; refine (pick_any g B (lim + 6 * k + 2) 3 _ (show CurOk w5.drew g B (lim + 6 * k + 2) from hc5.out) (by omega) (by decide)).mono ?_; rintro e w7 ⟨y, rfl, y0, y1, cu7, on7⟩; have hx7 := Lib.hid (owns_only hxo'.out (show Only (some ⟨g, 0, none⟩) w5 w7 from ⟨on7.os, on7.tape, on7.output, on7.size, on7.block⟩) (by omega)); have c1 := (rowIs_onlyT hr'.out (show Only (some ⟨g, 0, none⟩) w5 w7 from ⟨on7.os, on7.tape, on7.output, on7.size, on7.block⟩) (by omega)).cell (i := q * 2 + 1) (by omega); rw [hz'.out] at c1; have hg7 := Lib.hid (hg5.out.trans (Grew.of_only (show Only (some ⟨g, 0, none⟩) w5 w7 from ⟨on7.os, on7.tape, on7.output, on7.size, on7.block⟩))); have hc7 := Lib.hid cu7; have hs7 := Lib.hid hg7.out.size; clear cu7 on7))
          all_goals
            have hb8 : Below w.heap.size w7 w8 := ((Below.refl w.heap.size w7).alloc hs7.out _).grown hgrow8 (by have := hs7.out; simp; omega) (fun g hg => (hx7.out.lt g hg).1)
            have t8 := Lib.hid (show TreeOwn w8 w.heap.size (.slice (some ⟨g8, 0, none⟩) (k + 1) cap8) (k + 1) from ⟨_, hown8, fun u hu => by
              rw [List.mem_append] at hu
              rcases hu with h | h
              · exact hxi'.out u h
              · simp at h
                rcases h with rfl | rfl <;> exact ⟨_, rfl⟩⟩)
            have c8 := Lib.hid (hc7.out.below (hb8.mono hB))
            have gr8 := Lib.hid (hg7.out.trans (Grew.of_below hb8))
            clear hown8 hgrow8 hb8 c1
            go_simp
            go_wp2_with fail
            go_roundw
            case rel => exact ⟨j - 1, k + 1, by go_num, by omega, by omega, t8, Lib.hid (c8.out.more (by omega)), gr8⟩
            case measure => simp [intOf]; omega
        · go_wp2_with fail
          refine (pick_any g B (lim + 6 * k + 2) k w5 hc5.out (by omega) (by omega)).mono ?_
          rintro e w6 ⟨q0, rfl, q1, q2, c6, o6⟩
          obtain ⟨q, rfl⟩ := Int.eq_ofNat_of_zero_le q1
          have hqk : q < k := by omega
          have ht6 := Lib.hid (ht5.out.only o6 (by omega))
          have hg6 := Lib.hid (hg5.out.trans (Grew.of_only o6))
          have hc6 := Lib.hid c6
          clear o6 c6 ht5 hc5 hg5 q1 q2
          obtain ⟨gt2, cap2, f, e2, _, _, hrow, hf⟩ := ht6.out.row (by omega)
          cases e2
          obtain ⟨z, hz⟩ := hf (q * 2 + 1) (by omega)
          have c1 := hrow.cell (i := q * 2 + 1) (by omega)
          rw [hz] at c1
          have hz' := Lib.hid hz
          obtain ⟨xs, hxo, hxi⟩ := ht6.out
          have hxo' := Lib.hid hxo; have hxi' := Lib.hid hxi
          have hr' := Lib.hid hrow
          clear hxo hxi hf hz hrow
          go_wp2_with fail
          go_region_law (first
            | (refine step_append_lies _ rfl (.tmp 28) (.tmp 40) 23 rfl w.heap.size 37 i0 _ 2 16 Try.underlying23 hi0 hz0 hz1 hz2 rfl (by decide) _ k xs rfl (hx7.out.alloc _) ⟨w7.heap.size, 0, none⟩ 1 1 _ rfl rfl (World.news_of_block (heap_alloc_new _ _)) (by intro u hu; simp at hu; rcases hu with rfl | rfl <;> rfl) (by decide) (by unfold maxLen; omega) (by omega) (by have := hs7.out; simp; omega) _ rfl ?_; intro g8 cap8 w8 hown8 hgrow8 _ _)
            | (go_simp; go_at_call 69; refine (pick_any g B (lim + 6 * k + 2 + 2) 3 _ (show CurOk w6.drew g B (lim + 6 * k + 2 + 2) from hc6.out) (by omega) (by decide)).mono ?_; rintro e w7 ⟨y, rfl, y0, y1, cu7, on7⟩; have hx7 := Lib.hid (owns_only hxo'.out (show Only (some ⟨g, 0, none⟩) w6 w7 from ⟨on7.os, on7.tape, on7.output, on7.size, on7.block⟩) (by omega)); have c1 := (rowIs_onlyT hr'.out (show Only (some ⟨g, 0, none⟩) w6 w7 from ⟨on7.os, on7.tape, on7.output, on7.size, on7.block⟩) (by omega)).cell (i := q * 2 + 1) (by omega); rw [hz'.out] at c1; have hg7 := Lib.hid (hg6.out.trans (Grew.of_only (show Only (some ⟨g, 0, none⟩) w6 w7 from ⟨on7.os, on7.tape, on7.output, on7.size, on7.block⟩))); have hc7 := Lib.hid cu7; have hs7 := Lib.hid hg7.out.size; clear cu7 on7))
          all_goals
            have hb8 : Below w.heap.size w7 w8 := ((Below.refl w.heap.size w7).alloc hs7.out _).grown hgrow8 (by have := hs7.out; simp; omega) (fun g hg => (hx7.out.lt g hg).1)
            have t8 := Lib.hid (show TreeOwn w8 w.heap.size (.slice (some ⟨g8, 0, none⟩) (k + 1) cap8) (k + 1) from ⟨_, hown8, fun u hu => by
              rw [List.mem_append] at hu
              rcases hu with h | h
              · exact hxi'.out u h
              · simp at h
                rcases h with rfl | rfl <;> exact ⟨_, rfl⟩⟩)
            have c8 := Lib.hid (hc7.out.below (hb8.mono hB))
            have gr8 := Lib.hid (hg7.out.trans (Grew.of_below hb8))
            clear hown8 hgrow8 hb8 c1
            go_simp
            go_wp2_with fail
            go_roundw
            case rel => exact ⟨j - 1, k + 1, by go_num, by omega, by omega, t8, Lib.hid (c8.out.more (by omega)), gr8⟩
            case measure => simp [intOf]; omega
      · have hj' : ¬ (0 : Int) < (j : Int) := by omega
        obtain ⟨q, hq⟩ : ∃ q : Nat, q + 1 = k := ⟨k - 1, by omega⟩
        have hqe := Lib.hid (show ((k : Int) - 1) = (q : Int) by omega)
        have hqk : q < k := by omega
        have hrow' := Lib.hid hrow; have hf' := Lib.hid hf
        clear hq hrow hf ht
        go_wp2_with fail
        refine (pick_any g B (lim + 6 * k) 30 wr hc.out (by omega) (by decide)).mono ?_
        rintro e w5 ⟨x, rfl, x0, x1, c5, o5⟩
        have hr5 := Lib.hid (rowIs_onlyT hrow'.out o5 (by omega))
        have hg5 := Lib.hid (hg.out.trans (Grew.of_only o5))
        have hc5 := Lib.hid c5
        have hs5 := hg5.out.size
        clear c5 o5 hrow' hg hc
        by_cases h0 : x = 0
        · subst h0
          go_wp2_with fail
          rw [hqe.out]
          refine (among_any g B (lim + 6 * k + 2) 3 3 (w5.heap.size + 1) _ [0, 4000, 4001] _ (hc5.out.below ((Below.refl B w5).alloc (by omega) _)) (by omega) (three_ints w5 0 4000 4001 3) (by decide) (by decide) (fun ad e => by cases e; exact Nat.ne_of_gt (by show g < w5.heap.size; omega))).mono ?_
          rintro e w6 ⟨i, hi, rfl, c6, o6⟩
          have hr6 := rowIs_onlyT (hr5.out.alloc _) o6 (by omega)
          have hg6 := Lib.hid ((hg5.out.alloc hs5 _).trans (Grew.of_only o6))
          have hc6 := Lib.hid c6
          generalize ([0, 4000, 4001] : List Int)[i]?.getD 0 = z
          have c1 := hr6.cell (i := q * 2 + 1) (by omega)
          have f1 := hr6.frozen (q * 2 + 1)
          have hr6' := Lib.hid hr6
          clear hr6 c6 o6
          go_wp2_with fail
          go_ret
          obtain ⟨ts, hts⟩ := blks_of_row (k := k) (hr6'.out.set (q * 2 + 1) (.int .i64 z)) (by omega) (fun i hi => by
            by_cases e : i = q * 2 + 1
            · exact ⟨z, by rw [if_pos e]⟩
            · obtain ⟨y, hy⟩ := hf'.out i hi
              exact ⟨y, by rw [if_neg e, hy]⟩)
          have hbs : Below w.heap.size w6 (w6.setCell ⟨gt, q * 2 + 1, none⟩ (.int .i64 z)) := (Below.refl _ _).setCell hge _
          exact ⟨_, _, _, ts, rfl, hts, fun ad e => by cases e; exact hge, hk1, by omega, (hc6.out.below (hbs.mono hB)).more (by omega), hg6.out.trans (Grew.of_below hbs)⟩
        · have hx0 : (x == 0) = false := by simp; exact h0
          by_cases h1 : x = 1
          · subst h1
            clear hx0 h0
            go_wp2_with fail
            rw [hqe.out]
            refine (pick_any g B (lim + 6 * k + 2) 4 w5 hc5.out (by omega) (by decide)).mono ?_
            rintro e w6 ⟨y, rfl, y0, y1, c6, o6⟩
            have hr6 := rowIs_onlyT hr5.out o6 (by omega)
            have hg6 := Lib.hid (hg5.out.trans (Grew.of_only o6))
            have hc6 := Lib.hid c6
            have hy4 : y ≤ 3 := by omega
            have c1 := hr6.cell (i := q * 2) (by omega)
            have f1 := hr6.frozen (q * 2)
            have hr6' := Lib.hid hr6
            clear hr6 c6 o6 y1
            go_wp2_with fail
            go_ret
            obtain ⟨ts, hts⟩ := blks_of_row (k := k) (hr6'.out.set (q * 2) (.int .i64 (y - 1))) (by omega) (fun i hi => by
              by_cases e : i = q * 2
              · exact ⟨y - 1, by rw [if_pos e]⟩
              · obtain ⟨y, hy⟩ := hf'.out i hi
                exact ⟨y, by rw [if_neg e, hy]⟩)
            have hbs : Below w.heap.size w6 (w6.setCell ⟨gt, q * 2, none⟩ (.int .i64 (y - 1))) := (Below.refl _ _).setCell hge _
            exact ⟨_, _, _, ts, rfl, hts, fun ad e => by cases e; exact hge, hk1, by omega, (hc6.out.below (hbs.mono hB)).more (by omega), hg6.out.trans (Grew.of_below hbs)⟩
          · have hx1 : (x == 1) = false := by simp; exact h1
            go_wp2_with fail
            go_ret
            obtain ⟨ts, hts⟩ := blks_of_row (k := k) hr5.out (by omega) hf'.out
            exact ⟨_, _, _, ts, rfl, hts, fun ad e => by cases e; exact hge, hk1, by omega, hc5.out.more (by omega), hg5.out⟩
end Go.Proofs.Ythiegfbdmmpabab

/- What is proved here: what the model's draws of chapter 3's arguments return, at every slice of bytes. No conditions beside the slice's length. -/
namespace Go.Proofs.Ythiegfbdmmpabab
open Go.RowKit

def DrawBlk (w : World) (e : Ending) (w' : World) : Prop :=
  ∃ A n c ts, e = .returned (.slice A n c) ∧ BlksAt w' w'.heap.size A n ts ∧ n ≤ 25 ∧ Below w.heap.size w w'
def DrawBlk2 (w : World) (e : Ending) (w' : World) : Prop :=
  ∃ A n c ts a, e = .returned (.tuple #[.slice A n c, .int .i64 a]) ∧ BlksAt w' w'.heap.size A n ts ∧ n ≤ 25 ∧ Below w.heap.size w w'
def DrawBlk3 (w : World) (e : Ending) (w' : World) : Prop :=
  ∃ A n c ts a b, e = .returned (.tuple #[.slice A n c, .int .i64 a, .int .i64 b]) ∧ BlksAt w' w'.heap.size A n ts ∧ n ≤ 25 ∧ Below w.heap.size w w'

theorem BlksAt.only {w w' : World} {A : Option Addr} {n g : Nat} {ts : List Blk} (h : BlksAt w w.heap.size A n ts) (ho : Only (some ⟨g, 0, none⟩) w w') (hg : ∀ ad, A = some ad → g < ad.block) : BlksAt w' w'.heap.size A n ts :=
  ⟨h.1, fun k hk => by
    obtain ⟨b, off, e, hb, h1, h2⟩ := h.2 k hk
    have hbg : w'.heap[b]? = w.heap[b]? := ho.block b (fun ad e' => by cases e'; have := hg _ e; exact Nat.ne_of_gt this)
    exact ⟨b, off, e, by rw [ho.size]; exact hb, (World.cell?_of_block (a := ⟨b, off + k * 2, none⟩) hbg).trans h1, (World.cell?_of_block (a := ⟨b, off + k * 2 + 1, none⟩) hbg).trans h2⟩⟩

/-- What is kept while numbers are drawn behind a tree. -/
structure Drew (w0 w : World) (g B lim : Nat) (A : Option Addr) (n : Nat) (ts : List Blk) : Prop where
  blk : BlksAt w w.heap.size A n ts
  far : ∀ ad, A = some ad → g < ad.block
  cur : CurOk w g B lim
  bel : Below w0.heap.size w0 w
  low : w0.heap.size ≤ g
theorem Drew.only {w0 w w' : World} {g B lim lim' n : Nat} {A : Option Addr} {ts : List Blk} (h : Drew w0 w g B lim A n ts) (ho : Only (some ⟨g, 0, none⟩) w w') (hc : CurOk w' g B lim') : Drew w0 w' g B lim' A n ts :=
  ⟨h.blk.only ho h.far, h.far, hc, h.bel.trans (ho.below (fun ad e => by cases e; exact h.low)), h.low⟩

/-- A tree drawn from a new cursor. -/
theorem newTree_any (A : Option Addr) (n c : Nat) (w : World) (h : BytesIn w A n) (hn : n ≤ 1048576) :
    Calls Try.prog 66 #[.pointer (some ⟨w.heap.size, 0, none⟩)] (w.alloc (.cells #[.slice A n c, .int .i64 0, .int .u64 0] 76)) fun e w' =>
      ∃ A1 n1 c1 ts, e = .returned (.slice A1 n1 c1) ∧ 1 ≤ n1 ∧ n1 ≤ 25 ∧ Drew w w' w.heap.size (w.heap.size + 1) 200 A1 n1 ts := by
  refine (tree_any w.heap.size (w.heap.size + 1) 0 _ (cur_new (c := c) h hn) (by simp) (by decide)).mono ?_
  rintro e w1 ⟨A1, n1, c1, ts, rfl, hb, hfar, h1, h2, hc, hg⟩
  exact ⟨A1, n1, c1, ts, rfl, h1, h2, ⟨hb, fun ad e => by have := hfar ad e; simp at this; omega, hc.more (by omega), grew_new hg, Nat.le_refl _⟩⟩

set_option maxRecDepth 100000 in
set_option maxHeartbeats 800000 in
theorem drawWay_any (A : Option Addr) (n c : Nat) (w : World) (h : BytesIn w A n) (hn : n ≤ 1048576) :
    Calls Try.prog 63 #[.slice A n c] w (DrawBlk2 w) := by
  go_enter Try.func63, Try.ntmps63
  go_wp2_with fail
  refine (newTree_any A n c w h hn).mono ?_
  rintro e w1 ⟨A1, n1, c1, ts, rfl, h1, h2, hd⟩
  have hd1 := Lib.hid hd; clear hd
  go_wp2_with fail
  refine (pick_any w.heap.size (w.heap.size + 1) 200 _ w1 hd1.out.cur (by decide) (by omega)).mono ?_
  rintro e w2 ⟨x, rfl, x0, x1, c2, o2⟩
  have hd2 := Lib.hid (hd1.out.only o2 c2)
  clear c2 o2
  go_wp2_with fail
  go_ret2
  exact ⟨_, _, _, ts, _, rfl, hd2.out.blk, h2, hd2.out.bel⟩

set_option maxRecDepth 100000 in
set_option maxHeartbeats 800000 in
theorem drawAbove_any (A : Option Addr) (n c : Nat) (w : World) (h : BytesIn w A n) (hn : n ≤ 1048576) :
    Calls Try.prog 111 #[.slice A n c] w (DrawBlk3 w) := by
  go_enter Try.func111, Try.ntmps111
  go_wp2_with fail
  refine (newTree_any A n c w h hn).mono ?_
  rintro e w1 ⟨A1, n1, c1, ts, rfl, h1, h2, hd⟩
  have hd1 := Lib.hid hd; clear hd
  go_wp2_with fail
  refine (pick_any w.heap.size (w.heap.size + 1) 200 _ w1 hd1.out.cur (by decide) (by omega)).mono ?_
  rintro e w2 ⟨x, rfl, x0, x1, c2, o2⟩
  have hd2 := Lib.hid (hd1.out.only o2 c2)
  have hx : x ≤ 25 := by omega
  clear c2 o2 x1
  go_wp2_with fail
  refine (pick_any w.heap.size (w.heap.size + 1) 202 _ w2 hd2.out.cur (by decide) (by decide)).mono ?_
  rintro e w3 ⟨y, rfl, y0, y1, c3, o3⟩
  have hd3 := Lib.hid (hd2.out.only o3 c3)
  have hy : y ≤ 8 := by omega
  clear c3 o3 y1
  go_wp2_with fail
  refine (pick_any w.heap.size (w.heap.size + 1) 204 _ w3 hd3.out.cur (by decide) (by decide)).mono ?_
  rintro e w4 ⟨z, rfl, z0, z1, c4, o4⟩
  have hd4 := Lib.hid (hd3.out.only o4 c4)
  have hz : z ≤ 8 := by omega
  clear c4 o4 z1
  go_wp2_with fail
  refine (pick_any w.heap.size (w.heap.size + 1) 206 _ w4 hd4.out.cur (by decide) (by omega)).mono ?_
  rintro e w5 ⟨v, rfl, v0, v1, c5, o5⟩
  have hd5 := Lib.hid (hd4.out.only o5 c5)
  have hv : v ≤ 100 := by omega
  clear c5 o5 v1
  go_wp2_with fail
  refine (pick_any w.heap.size (w.heap.size + 1) 208 _ w5 hd5.out.cur (by decide) (by decide)).mono ?_
  rintro e w6 ⟨u, rfl, u0, u1, c6, o6⟩
  have hd6 := Lib.hid (hd5.out.only o6 c6)
  have hu : u ≤ 8 := by omega
  clear c6 o6 u1
  go_wp2_with fail
  go_ret3
  exact ⟨_, _, _, ts, _, _, rfl, hd6.out.blk, h2, hd6.out.bel⟩

theorem drawMeet_any (A : Option Addr) (n c : Nat) (w : World) (h : BytesIn w A n) (hn : n ≤ 1048576) :
    Calls Try.prog 56 #[.slice A n c] w (DrawBlk3 w) := by
  go_enter Try.func56, Try.ntmps56
  go_wp2_with fail
  refine (drawAbove_any A n c w h hn).mono ?_
  rintro e w1 ⟨A1, n1, c1, ts, a, b, rfl, h1, h2, h3⟩
  have h1' := Lib.hid h1; clear h1
  go_wp2_with fail
  go_ret3
  exact ⟨_, _, _, ts, _, _, rfl, h1'.out, h2, h3⟩
end Go.Proofs.Ythiegfbdmmpabab
