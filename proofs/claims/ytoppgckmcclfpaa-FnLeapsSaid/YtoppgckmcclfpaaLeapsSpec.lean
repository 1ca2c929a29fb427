/- What is proved here: LeapsOf of the model. No conditions. -/
import Derived.Test.YtoppgckmcclfpaaLeaps
import Derived.Test.YtoppgckmcclfpaaRaised
import Derived.Deep.AppendLies
import Derived.Test.YtoppgckmcclfpaaLeaves
namespace Go.Proofs.Ytoppgckmcclfpaa
open Go.RowKit

theorem jmp_there {ts : List Blk} {b k : Nat} (h : 2 ^ k ≤ dep ts b) : jmp ts b k = (anc ts b (2 ^ k) : Nat) ∧ (jmp ts b k != -1) = true := by
  have e : jmp ts b k = (anc ts b (2 ^ k) : Nat) := by unfold jmp; rw [if_pos h]
  exact ⟨e, by rw [e]; simp⟩
theorem leapsL_rest {ts : List Blk} {b i : Nat} (h : dep ts b < 2 ^ i) : ∀ j, leapsL ts b (i + j) = leapsL ts b i
  | 0 => rfl
  | j + 1 => by
    have hp : 2 ^ i ≤ 2 ^ (i + j) := Nat.pow_le_pow_right (by decide) (by omega)
    have : (jmp ts b (i + j) != -1) = false := by unfold jmp; rw [if_neg (by omega)]; rfl
    rw [← Nat.add_assoc, leapsL_no this]; exact leapsL_rest h j
theorem few_leaps {i d : Nat} (h : 2 ^ i ≤ d) (hd : d ≤ 23) : i ≤ 4 := by
  rcases Nat.lt_or_ge i 5 with h5 | h5
  · omega
  · have : 2 ^ 5 ≤ 2 ^ i := Nat.pow_le_pow_right (by decide) h5
    omega

/-- The model's rows so far. -/
structure SpecSt (w0 w : World) (v : Value) (b : Nat) (ts : List Blk) : Prop where
  bel : Below w0.heap.size w0 w
  own : ∃ (vals : List Value) (ad : Nat → Option Addr) (ca : Nat → Nat), w.ownsRow w0.heap.size 31 1 v b vals ∧ ∀ i, i < b → vals[i]? = some (.slice (ad i) (leapsL ts i 5).length (ca i)) ∧ OwnAt w w0.heap.size (ad i) (leapsL ts i 5).length (leapsL ts i 5) ∧ ∀ x, ad i = some x → v.ownBlock ≠ some x.block

def RetRowsS (w : World) (b : Bool) (rows : List (List Int)) (e : Ending) (w' : World) : Prop :=
  ∃ A n c, e = .returned (.tuple #[.slice A n c, .bool b]) ∧ RowsAt w' w'.heap.size A n rows ∧ Below w.heap.size w w'

theorem SpecSt.rows {w0 w : World} {v : Value} {ts : List Blk} (h : SpecSt w0 w v ts.length ts) : ∃ A c, v = .slice A ts.length c ∧ RowsAt w w.heap.size A ts.length (leapsT ts) := by
  obtain ⟨vals, ad, ca, ⟨hl, hh⟩, hv⟩ := h.own
  rcases hh with ⟨rfl, h0⟩ | ⟨g, cap, cur, rfl, hB, hblk, hn, hm, hc, ht⟩
  · exact ⟨none, 0, by rw [h0], ⟨leapsT_len ts, fun i hi => absurd hi (by omega)⟩⟩
  · refine ⟨_, cap, rfl, leapsT_len ts, fun i hi => ?_⟩
    obtain ⟨e, ho, _⟩ := hv i hi
    refine ⟨g, 0, ad i, ca i, rfl, (Array.getElem?_eq_some_iff.1 hblk).1, ?_, ?_⟩
    · rw [Nat.zero_add, cell_of_row _ _ _ _ _ _ hblk, leapsT_row hi]
      have e1 : (cur.toList.take (ts.length * 1))[i]? = vals[i]? := by rw [ht]
      rw [List.getElem?_take_of_lt (by omega), Array.getElem?_toList] at e1
      rw [e1, e]
    · rw [leapsT_row hi]; exact ho.ints

/-- One row more. -/
theorem SpecSt.next {w0 w1 w w' : World} {v : Value} {b g cap L c H : Nat} {A : Option Addr} {ts : List Blk} {vals : List Value} {ad : Nat → Option Addr} {ca : Nat → Nat}
    (hbel : Below w0.heap.size w0 w1) (hv : ∀ i, i < b → vals[i]? = some (.slice (ad i) (leapsL ts i 5).length (ca i)) ∧ OwnAt w1 w0.heap.size (ad i) (leapsL ts i 5).length (leapsL ts i 5) ∧ ∀ x, ad i = some x → v.ownBlock ≠ some x.block)
    (hvl : vals.length = b) (hL : L = (leapsL ts b 5).length)
    (h1 : Below w1.heap.size w1 w) (hrow : OwnAt w w1.heap.size A L (leapsL ts b 5)) (hvb : ∀ k, v.ownBlock = some k → w0.heap.size ≤ k ∧ k < w1.heap.size)
    (hown : w'.ownsRow w0.heap.size 31 1 (.slice (some ⟨g, 0, none⟩) (b + 1) cap) (b + 1) (vals ++ [.slice A L c]))
    (hgrow : (w.alloc (.cells #[.slice A L c] 31)).grownBy w' v.ownBlock) (hat : v.ownBlock = some g ∨ g = H) (hH : (w.alloc (.cells #[.slice A L c] 31)).heap.size = H) :
    SpecSt w0 w' (.slice (some ⟨g, 0, none⟩) (b + 1) cap) (b + 1) ts := by
  have hsz1 := h1.size
  have hsH : w.heap.size + 1 = H := by rw [← hH]; simp
  have hb2 : Below w0.heap.size w0 w' := (hbel.trans (h1.mono hbel.size)).trans ((((Below.refl w0.heap.size w).alloc (by have := hbel.size; omega) _)).grown hgrow (by have := hbel.size; simp; omega) (fun k hk => (hvb k hk).1))
  have keep : ∀ k, k < w.heap.size → v.ownBlock ≠ some k → w'.heap[k]? = w.heap[k]? := fun k hk hne => (hgrow.block k (by simp; omega) (fun e => hne e.symm)).trans (Below.heap_alloc _ _ _ hk)
  have hsz' : w.heap.size ≤ w'.heap.size := by have := hgrow.size; simp at this; omega
  subst hL
  refine ⟨hb2, vals ++ [.slice A _ c], fun i => if i = b then A else ad i, fun i => if i = b then c else ca i, hown, fun i hi => ?_⟩
  by_cases e : i = b
  · subst e
    refine ⟨?_, ?_, fun x hx => ?_⟩
    · rw [List.getElem?_append_right (by omega)]; simp [hvl]
    · simp only [if_true]
      exact (hrow.keep hsz' (fun x hx => keep _ (hrow.low x hx).2 (fun e => by have := (hvb _ e).2; have := (hrow.low x hx).1; omega))).fewer hbel.size
    · simp only [if_true] at hx
      have l1 := hrow.low x hx
      intro e
      have e' : g = x.block := by simpa [Value.ownBlock] using e
      rcases hat with h | h
      · have := (hvb g h).2; omega
      · omega
  · obtain ⟨a1, a2, a3⟩ := hv i (by omega)
    have a4 := a2.below h1
    refine ⟨?_, ?_, fun x hx => ?_⟩
    · rw [List.getElem?_append_left (by omega), a1]; simp [e]
    · simp only [e, if_false]
      exact a4.keep hsz' (fun x hx => keep _ (a4.low x hx).2 (a3 x hx))
    · simp only [e, if_false] at hx
      intro e'
      have e2 : g = x.block := by simpa [Value.ownBlock] using e'
      rcases hat with h | h
      · exact a3 x hx (by rw [h, e2])
      · have := (a4.low x hx).2; omega

set_option maxRecDepth 100000 in
set_option maxHeartbeats 800000 in
theorem specLeaps_any (A : Option Addr) (n c : Nat) (ts : List Blk) (w : World) (h : BlksAt w w.heap.size A n ts) (hn : n ≤ 1048576) :
    Calls Try.prog 30 #[.slice A n c] w (RetRowsS w (goodT ts) (leapsR ts)) := by
  have hl := Lib.hid h.1
  have hh := Lib.hid h; clear h
  cases hg : goodT ts
  · have hr := Lib.hid (show leapsR ts = [] by unfold leapsR; rw [hg]; rfl)
    go_enter Try.func30, Try.ntmps30
    go_wp2_with (go_at_call 21; refine (specGoodT_any _ _ _ ts _ hh.out hn).mono ?_; rintro e w1 ⟨rfl, b1⟩; rw [hg])
    go_ret2
    exact ⟨none, 0, 0, rfl, by rw [hr.out]; exact ⟨rfl, fun i hi => absurd hi (Nat.not_lt_zero _)⟩, b1⟩
  · have hr := Lib.hid (show leapsR ts = leapsT ts by unfold leapsR; rw [hg]; rfl)
    have ht := goodT_iff.1 hg
    have hfew : n ≤ 24 := by rw [← hl.out]; exact ht.few
    obtain ⟨i0, hi0, hz0, hz1, hz2⟩ := info_parts info3
    obtain ⟨j0, hj0, hy0, hy1, hy2⟩ := info_parts infoInts
    go_enter Try.func30, Try.ntmps30
    go_wp2_with (go_at_call 21; refine (specGoodT_any _ _ _ ts _ hh.out hn).mono ?_; rintro e w1 ⟨rfl, b1⟩; rw [hg]; have u1 := Lib.hid b1; clear b1)
    go_loopw [4, 14] (fun v i wr => ∃ b : Nat, b ≤ n ∧ i = .int .i64 b ∧ Hid (SpecSt w wr v b ts)) (fun _ i _ => n - (intOf i).toNat)
    case atStart => exact ⟨0, Nat.zero_le _, rfl, Lib.hid ⟨u1.out, [], fun _ => none, fun _ => 0, World.ownsRow_nil _ _ _ _, fun i hi => absurd hi (Nat.not_lt_zero _)⟩⟩
    case round =>
      obtain ⟨b, hb, rfl, hs⟩ := hrel
      by_cases hlt : b < n
      · have hbl : b < ts.length := by rw [hl.out]; exact hlt
        have hwl := Lib.hid (wayV_len ht hbl)
        have hdl := dep_le ht hbl
        obtain ⟨w1, hw1⟩ : ∃ w1, w1 = wr := ⟨_, rfl⟩
        have hw1' := Lib.hid hw1; clear hw1
        go_wp2_with fail
        refine (way_ok _ _ _ ts b _ (hh.out.up hs.out.bel) hn ht hlt).mono ?_
        rintro e w2 ⟨A2, n2, c2, rfl, o2, b2⟩
        have hn2 : n2 = dep ts b + 1 := by rw [← o2.len, hwl.out]
        subst hn2
        have o2' := Lib.hid o2
        have b2' := Lib.hid b2
        clear o2 b2
        go_wp2_with fail
        go_loopw [7, 8] (fun v i wq => ∃ k : Nat, k ≤ 5 ∧ i = .int .i64 ((2 ^ k : Nat) : Int) ∧ 2 ^ k ≤ 64 ∧ Hid (wq.ownsRow w2.heap.size 3 1 v (leapsL ts b k).length ((leapsL ts b k).map (Value.int .i64))) ∧ Hid (Below w2.heap.size w2 wq)) (fun _ i _ => 64 - (intOf i).toNat)
        case atStart => exact ⟨0, by omega, rfl, by decide, Lib.hid (World.ownsRow_nil _ _ _ _), Lib.hid (Below.refl _ _)⟩
        case round =>
          obtain ⟨k, hk, rfl, hk64, how, hbq⟩ := hrel
          have hkp : 0 < 2 ^ k := Nat.two_pow_pos k
          have hps := Lib.hid (Nat.pow_succ (n := 2) (m := k))
          by_cases hup : 2 ^ k ≤ dep ts b
          · obtain ⟨ej, hne⟩ := jmp_there hup
            have hyes := Lib.hid (leapsL_yes hne)
            have hk4 := few_leaps hup (by have := ht.few; omega)
            obtain ⟨g2, f2, e2, hg2, hc0⟩ := o2'.out.ints.2 (dep ts b - 2 ^ k) (by omega)
            rw [wayV_get ht hbl (2 ^ k) hup, ← ej] at hc0
            have hc := (hbq.out.cell (p := ⟨g2, f2 + (dep ts b - 2 ^ k), none⟩) hg2).trans hc0
            have hown := how.out
            have hszq := hbq.out.size
            have hlen := leapsL_len ts b k
            subst e2
            have hk32 : 2 ^ k * 2 ≤ 64 := by omega
            clear hc0 ej hne
            generalize 2 ^ k = P at hc hup hk64 hkp hps hk32 ⊢
            have hupI : (P : Int) < ((dep ts b : Nat) : Int) + 1 := by omega
            have hupI2 : (P : Int) < ((dep ts b + 1 : Nat) : Int) := by omega
            have hpd : P ≤ dep ts b := hup
            go_wp2_with (at_builtin; refine wpList_append_own _ rfl _ _ 31 rfl w2.heap.size 3 i0 (.int .i64 0) 1 8 Try.underlying31 hi0 hz0 hz1 hz2 rfl (by decide) _ _ _ rfl (hown.alloc _) ⟨wr.heap.size, 0, none⟩ 1 1 [.int .i64 (jmp ts b k)] rfl rfl ?c1 ?c2 ?c3 ?c4 ?c5 ?_)
            case c1 =>
              intro j u hj
              match j, hj with
              | 0, hj => simp at hj; subst hj; simp [Addr.add]
            case c2 => intro u hu; simp at hu; subst hu; rfl
            case c3 => unfold maxLen; omega
            case c4 => omega
            case c5 => simp; omega
            intro v' w4 hown4 hgrow _
            have hb4 := Lib.hid (hbq.out.trans (((Below.refl w2.heap.size wr).alloc hszq _).grown hgrow (by simp; omega) (fun g hg => (hown.lt g hg).1)))
            have hown5 := Lib.hid (show w4.ownsRow w2.heap.size 3 1 v' (leapsL ts b (k + 1)).length ((leapsL ts b (k + 1)).map (Value.int .i64)) by rw [hyes.out]; simpa using hown4)
            clear hown4 hgrow hown hc
            go_wp2_with fail
            go_roundw
            case rel => exact ⟨k + 1, by omega, by rw [hps.out]; go_num, by rw [hps.out]; exact hk32, hown5, hb4⟩
            case measure => simp [intOf]; omega
          · have hrest := Lib.hid (show leapsL ts b 5 = leapsL ts b k by
              have := leapsL_rest (ts := ts) (b := b) (i := k) (by omega) (5 - k)
              rwa [show k + (5 - k) = 5 by omega] at this)
            have how' := how.out
            rw [← hrest.out] at how'
            obtain ⟨A5, c5, rfl, ho5⟩ := OwnAt.of_owns how'
            obtain ⟨vals, ad, ca, hown, hv⟩ := hs.out.own
            have hs1 := hs.out.bel
            rw [← hw1'.out] at hown hv hs1
            have hb12 : Below w1.heap.size w1 wr := by
              have := b2'.out
              rw [← hw1'.out] at this
              exact this.trans (hbq.out.mono this.size)
            have hsz1 := hb12.size
            have hsz0 := hs1.size
            have hownq := owns_below hown hb12
            have hvl : vals.length = b := by simpa using hown.1
            have hvb := Lib.hid (fun k hk => hown.lt k hk)
            have hro := Lib.hid (ho5.fewer (show w1.heap.size ≤ w2.heap.size by have := b2'.out.size; rw [← hw1'.out] at this; exact this))
            have hv' := Lib.hid hv; have hs1' := Lib.hid hs1; have hb12' := Lib.hid hb12
            have hL := Lib.hid (show (leapsL ts b 5).length = (leapsL ts b 5).length from rfl)
            have hno : ¬ ((2 ^ k : Nat) : Int) < ((dep ts b : Nat) : Int) + 1 := by omega
            have hno2 : ¬ ((2 ^ k : Nat) : Int) < ((dep ts b + 1 : Nat) : Int) := by omega
            clear hv hs1 hb12 how' ho5 hown
            generalize hPe : 2 ^ k = P at hno hno2 ⊢
            clear hPe hkp hk64 hup hps
            go_wp2_with (at_builtin; refine wpList_append_lies _ rfl _ _ 42 rfl w.heap.size 31 j0 (.slice none 0 0) 1 24 Try.underlying42 hj0 hy0 hy1 hy2 rfl (by decide) _ _ _ rfl (hownq.alloc _) ⟨wr.heap.size, 0, none⟩ 1 1 [.slice A5 (leapsL ts b 5).length c5] rfl rfl ?c1 ?c2 (by decide) ?c3 ?c4 ?c5 _ rfl ?_)
            try
              case c1 =>
                intro j u hj
                match j, hj with
                | 0, hj => simp at hj; subst hj; simp [Addr.add]
            case c2 => first | rfl | (intro u hu; simp at hu; subst hu; rfl)
            case c3 => unfold maxLen; omega
            case c4 => omega
            case c5 => first | omega | (simp; omega)
            intro g6 cap6 w6 hown6 hgrow6 hat6 hlt6
            have hfin := Lib.hid (SpecSt.next hs1'.out hv'.out hvl rfl hb12'.out hro.out hvb.out hown6 hgrow6 hat6 (by simp))
            clear hown6 hgrow6 hat6 hownq
            go_wp2_with fail
            go_roundw
            case rel => exact ⟨b + 1, by omega, by go_num, hfin⟩
            case measure => simp [intOf]; omega
      · have hbn : b = n := by omega
        subst hbn
        have hs' := hs.out
        rw [← hl.out] at hs'
        obtain ⟨A3, c3, rfl, hrows⟩ := hs'.rows
        have hrows' := Lib.hid hrows
        clear hs' hrows
        go_wp2_with fail
        go_ret2
        exact ⟨A3, _, c3, rfl, by rw [hr.out]; exact hrows'.out, hs.out.bel⟩
end Go.Proofs.Ytoppgckmcclfpaa
