/- What is proved here: WayTo of the program and of the model. No conditions. -/
import Derived.Test.YthiegfbdmmpababLeaves
import Derived.BigRegion
namespace Go.Proofs.Ythiegfbdmmpabab
open Go.RowKit

/-- The exchange of the library's Reverse, i rounds done. -/
def revAt (xs : List Int) (i t : Nat) : Int := if t < i ∨ xs.length - 1 - i < t then xs[xs.length - 1 - t]?.getD 0 else xs[t]?.getD 0
theorem revAt_zero {xs : List Int} {t : Nat} (ht : t < xs.length) : revAt xs 0 t = xs[t]?.getD 0 := by
  unfold revAt; rw [if_neg (by omega)]
theorem revAt_end {xs : List Int} {i j t : Nat} (h : i + j + 1 = xs.length) (hij : ¬ i < j) (ht : t < xs.length) : revAt xs i t = xs.reverse[t]?.getD 0 := by
  rw [List.getElem?_reverse ht]
  unfold revAt
  by_cases e : t < i ∨ xs.length - 1 - i < t
  · rw [if_pos e]
  · rw [if_neg e, show xs.length - 1 - t = t by omega]
theorem revAt_step {xs : List Int} {i j t : Nat} (h : i + j + 1 = xs.length) (hij : i < j) (ht : t < xs.length) : revAt xs (i + 1) t = if t = j then revAt xs i i else if t = i then revAt xs i j else revAt xs i t := by
  unfold revAt
  by_cases e1 : t = j
  · subst e1
    rw [if_pos (by omega), if_pos rfl, if_neg (by omega), show xs.length - 1 - t = i by omega]
  · rw [if_neg e1]
    by_cases e2 : t = i
    · subst e2
      rw [if_pos (by omega), if_pos rfl, if_neg (by omega), show xs.length - 1 - t = j by omega]
    · rw [if_neg e2]
      by_cases e3 : t < i ∨ xs.length - 1 - i < t
      · rw [if_pos e3, if_pos (by omega)]
      · rw [if_neg e3, if_neg (by omega)]
theorem Only.drew {A : Option Addr} {w w' : World} (h : Only A w w') : Only A w w'.drew := ⟨h.os, h.tape, h.output, h.size, h.block⟩

set_option maxHeartbeats 800000 in
theorem rev_any (g n m c : Nat) (f : Nat → Value) (xs : List Int) (w : World) (hr : w.rowIs g 3 m f) (hf : ∀ i, i < n → f i = .int .i64 (xs[i]?.getD 0)) (hl : xs.length = n) (hnm : n ≤ m) (h1 : 1 ≤ n) (hn : n ≤ 1000) :
    Calls Try.prog 80 #[.slice (some ⟨g, 0, none⟩) n c] w fun e w' => e = .returned (.tuple #[]) ∧ (∃ f', w'.rowIs g 3 m f' ∧ ∀ i, i < n → f' i = .int .i64 (xs.reverse[i]?.getD 0)) ∧ Only (some ⟨g, 0, none⟩) w w' := by
  have hr' := Lib.hid hr; have hf' := Lib.hid hf; have hl' := Lib.hid hl
  clear hr hf hl
  go_enter Try.func80, Try.ntmps80
  go_wp2_with fail
  go_loopw [2, 3] (fun a b wr => ∃ i j : Nat, a = .int .i64 i ∧ b = .int .i64 j ∧ Hid (i + j + 1 = n) ∧ i ≤ n ∧ j ≤ n ∧ (∃ f', wr.rowIs g 3 m f' ∧ Hid (∀ t, t < n → f' t = .int .i64 (revAt xs i t))) ∧ Only (some ⟨g, 0, none⟩) w wr) (fun a _ _ => n - (intOf a).toNat)
  case atStart => exact ⟨0, n - 1, rfl, by go_num, Lib.hid (by omega), by omega, by omega, ⟨f, hr'.out, Lib.hid (fun t ht => by rw [hf'.out t ht, revAt_zero (by rw [hl'.out]; exact ht)])⟩, Only.refl _ _⟩
  case round =>
    obtain ⟨i, j, rfl, rfl, hij, hi, hj, ⟨f', hrow, hv⟩, honly⟩ := hrel
    by_cases hlt : i < j
    · have hin : i < n := by have := hij.out; omega
      have hjn : j < n := by have := hij.out; omega
      have c1 := hrow.cell (i := i) (by omega)
      have c2 := hrow.cell (i := j) (by omega)
      rw [hv.out i hin] at c1
      rw [hv.out j hjn] at c2
      have f1 := hrow.frozen i
      have f2 := hrow.frozen j
      have hrow' := Lib.hid hrow; clear hrow
      have ho := Lib.hid honly; clear honly
      go_wp2_with fail
      go_region
      go_wp2_with fail
      go_roundw
      case rel =>
        refine ⟨i + 1, j - 1, by go_num, by go_num, Lib.hid (by have := hij.out; omega), by omega, by omega, ⟨_, (hrow'.out.set i _).set j _, Lib.hid (fun t ht => ?_)⟩, ((ho.out.set _).set _).drew⟩
        rw [revAt_step (j := j) (by rw [hl'.out]; exact hij.out) hlt (by rw [hl'.out]; exact ht)]
        by_cases e1 : t = j
        · rw [if_pos e1, if_pos e1]
        · rw [if_neg e1, if_neg e1]
          by_cases e2 : t = i
          · rw [if_pos e2, if_pos e2]
          · rw [if_neg e2, if_neg e2]; exact hv.out t ht
      case measure => simp [intOf]; omega
    · have hrow' := Lib.hid hrow; clear hrow
      have ho := Lib.hid honly; clear honly
      go_wp2_with fail
      go_end0
      refine ⟨rfl, ⟨f', hrow'.out, fun t ht => ?_⟩, ho.out⟩
      rw [hv.out t ht, revAt_end (j := j) (by rw [hl'.out]; exact hij.out) hlt (by rw [hl'.out]; exact ht)]

/-- The same step, its world told. -/
theorem step_eq (A : Option Addr) (n c g t : Nat) (ts : List Blk) (k : Nat) (w0 w : World) (h : BlksAt w0 w0.heap.size A n ts) (hn : n ≤ 1048576) (hs : Steps w0 w g t A n c k) (hk : k < n) :
    Calls Try.prog 125 #[.pointer (some ⟨g, 0, none⟩), .pointer (some ⟨t, 0, none⟩)] w fun e w' => e = .returned (.int .i64 k) ∧ w.setCell ⟨g, 0, none⟩ (.int .i64 (parZ ts k)) = w' := by
  obtain ⟨b, off, rfl, hb, hcs⟩ := h.at (by omega)
  have c0 := hs.cur.cell (i := 0) (by omega)
  have c1 := hs.tree.cell (i := 0) (by omega)
  have f0 := hs.cur.frozen 0
  have d0 := (hs.bel.cell (p := ⟨b, off + k * 2, none⟩) hb).trans (hcs k hk).1
  have hk0 : ((k : Int) != -1) = true := by simp
  clear hs hcs h
  go_enter Try.func125, Try.ntmps125
  go_wp2_with fail
  go_ret
  exact ⟨rfl, rfl⟩
theorem step_stop (A : Option Addr) (n c g t : Nat) (w0 w : World) (hs : Steps w0 w g t A n c (-1)) :
    Calls Try.prog 125 #[.pointer (some ⟨g, 0, none⟩), .pointer (some ⟨t, 0, none⟩)] w fun e w' => e = .returned (.int .i64 (-1)) ∧ w = w' := by
  have c0 := hs.cur.cell (i := 0) (by omega)
  clear hs
  go_enter Try.func125, Try.ntmps125
  go_wp2_with fail
  go_ret
  exact ⟨rfl, rfl⟩

def wayR (ts : List Blk) (b : Int) : List Int := if okK ts b then wayV ts b.toNat else []
theorem wayR_len (ts : List Blk) (b : Int) : (wayR ts b).length ≤ 100 := by
  unfold wayR
  cases hk : okK ts b
  · simp
  · obtain ⟨ht, k, rfl, hkl⟩ := okK_iff.1 hk
    have := wayV_len ht hkl
    have := dep_le ht hkl
    have := ht.few
    simp; omega

theorem specWay_any (A : Option Addr) (n c : Nat) (ts : List Blk) (a : Int) (w : World) (h : BlksAt w w.heap.size A n ts) (hn : n ≤ 1048576) :
    Calls Try.prog 64 #[.slice A n c, .int .i64 a] w (RetOwn w (okK ts a) (wayR ts a)) := by
  have hh := Lib.hid h; clear h
  cases hk : okK ts a
  · have hr := Lib.hid (show wayR ts a = [] by unfold wayR; rw [hk]; rfl)
    go_enter Try.func64, Try.ntmps64
    go_wp2_with (go_at_call 118; refine (there_ok _ _ _ ts _ _ hh.out hn).mono ?_; rintro e w1 ⟨rfl, b1⟩; rw [hk])
    go_ret2
    exact ⟨none, 0, 0, rfl, by rw [hr.out]; exact own_nil _ _, b1⟩
  · obtain ⟨ht, k, rfl, hkl⟩ := okK_iff.1 hk
    have hr := Lib.hid (show wayR ts k = wayV ts k by unfold wayR; rw [hk]; rfl)
    go_enter Try.func64, Try.ntmps64
    go_wp2_with (go_at_call 118; refine (there_ok _ _ _ ts _ _ hh.out hn).mono ?_; rintro e w1 ⟨rfl, b1⟩; rw [hk]; have u1 := Lib.hid b1; clear b1)
    refine (way_ok _ _ _ ts k _ (hh.out.up u1.out) hn ht (by rw [← hh.out.1]; exact hkl)).mono ?_
    rintro e w2 ⟨A2, n2, c2, rfl, ho, b2⟩
    have u2 := Lib.hid (u1.out.trans (b2.mono u1.out.size))
    have ho' := Lib.hid (ho.fewer u1.out.size)
    clear ho b2
    go_wp2_with fail
    go_ret2
    exact ⟨A2, n2, c2, rfl, by rw [hr.out]; exact ho'.out, u2.out⟩

/-- What is known while the program walks up: vis are the blocks that it has noted. -/
structure Noted (w1 wr : World) (B g t : Nat) (A : Option Addr) (n c : Nat) (ts : List Blk) (k0 : Nat) (v at_ : Value) (vis : List Int) : Prop where
  own : wr.ownsRow B 3 1 v vis.length (vis.map (Value.int .i64))
  size : B ≤ wr.heap.size
  few : vis.length ≤ 24
  now : (∃ k : Nat, at_ = .int .i64 k ∧ k < ts.length ∧ vis.length + dep ts k ≤ dep ts k0 ∧ wayV ts k0 = wayV ts k ++ vis.reverse ∧ Steps w1 wr g t A n c (parZ ts k)) ∨ (at_ = .int .i64 (-1) ∧ wayV ts k0 = vis.reverse ∧ Below w1.heap.size w1 wr)

set_option maxHeartbeats 800000 in
theorem implWay_any (A : Option Addr) (n c : Nat) (ts : List Blk) (a : Int) (w : World) (h : BlksAt w w.heap.size A n ts) (hn : n ≤ 1048576) :
    Calls Try.prog 15 #[.slice A n c, .int .i64 a] w (RetOwn w (okK ts a) (wayR ts a)) := by
  have hh := Lib.hid h; clear h
  cases hk : okK ts a
  · have hr := Lib.hid (show wayR ts a = [] by unfold wayR; rw [hk]; rfl)
    go_enter Try.func15, Try.ntmps15
    go_wp2_with (go_at_call 70; refine (isBlock_ok _ _ _ ts _ _ hh.out hn).mono ?_; rintro e w1 ⟨rfl, b1⟩; rw [hk])
    go_ret2
    exact ⟨none, 0, 0, rfl, by rw [hr.out]; exact own_nil _ _, b1⟩
  · obtain ⟨ht, k0, rfl, hkl⟩ := okK_iff.1 hk
    have hr := Lib.hid (show wayR ts k0 = wayV ts k0 by unfold wayR; rw [hk]; rfl)
    have hln := Lib.hid hh.out.1
    have hkn : k0 < n := by rw [← hln.out]; exact hkl
    have hwl := Lib.hid (wayV_len ht hkl)
    have hdl := dep_le ht hkl
    have hfew := ht.few
    obtain ⟨i0, hi0, hz0, hz1, hz2⟩ := info_parts info3
    go_enter Try.func15, Try.ntmps15
    go_wp2_with (go_at_call 70; refine (isBlock_ok _ _ _ ts _ _ hh.out hn).mono ?_; rintro e w1 ⟨rfl, b1⟩; rw [hk]; have u1 := Lib.hid b1; have h1 := Lib.hid (hh.out.up b1); clear b1)
    refine (stepsUp_any _ _ _ _ _).mono ?_
    rintro e w2 ⟨g, t, rfl, hs⟩
    unfold stepV
    have hgB := hs.cur.lt
    have htB := hs.tree.lt
    have hwB := hs.bel.size
    have hs2 := Lib.hid hs; clear hs
    go_wp2_with fail
    refine (step_eq _ _ _ _ _ ts k0 w1 w2 h1.out hn hs2.out hkn).mono ?_
    rintro e w3 ⟨rfl, hw3⟩
    have hno := Lib.hid (show Noted w1 w3 w2.heap.size g t A n c ts k0 (.slice none 0 0) (.int .i64 k0) [] from ⟨World.ownsRow_nil _ _ _ _, by rw [← hw3]; simp, by simp, .inl ⟨k0, rfl, hkl, by simp, by simp, by rw [← hw3]; exact hs2.out.set _⟩⟩)
    clear hs2 hw3
    generalize w2.heap.size = B at hgB htB hwB hno
    go_wp2_with fail
    go_loopw [6, 8] (fun v x wr => ∃ vis, Hid (Noted w1 wr B g t A n c ts k0 v x vis) ∧ vis.length ≤ 24) (fun _ x _ => (intOf x + 1).toNat)
    case atStart => exact ⟨[], hno, by simp⟩
    case round =>
      obtain ⟨vis, hno, hvl⟩ := hrel
      rcases hno.out.now with ⟨k, rfl, hk1, hd, hw, hs⟩ | ⟨rfl, hw, hbel⟩
      · have hk0 : ((k : Int) != -1) = true := by simp
        have hown := hno.out.own
        have hsz := hno.out.size
        have hd' := Lib.hid hd; have hw' := Lib.hid hw; have hs' := Lib.hid hs
        clear hd hw hs
        go_wp2_with (at_builtin; refine wpList_append_own _ rfl _ _ 24 rfl B 3 i0 (.int .i64 0) 1 8 Try.underlying24 hi0 hz0 hz1 hz2 rfl (by decide) _ _ _ rfl (hown.alloc _) ⟨wr.heap.size, 0, none⟩ 1 1 [.int .i64 (k : Int)] rfl rfl ?c1 ?c2 ?c3 ?c4 ?c5 ?_)
        case c1 =>
          intro j u hj
          match j, hj with
          | 0, hj => simp at hj; subst hj; simp [Addr.add]
        case c2 => intro u hu; simp at hu; subst hu; rfl
        case c3 => unfold maxLen; omega
        case c4 => omega
        case c5 => simp; omega
        intro v' w4 hown4 hgrow _
        have hb4 : Below B wr w4 := ((Below.refl B wr).alloc hsz _).grown hgrow (by simp; omega) (fun g hg => (hown.lt g hg).1)
        have hs4 := Lib.hid (show Steps w1 w4 g t A n c (parZ ts k) from ⟨rowIs_below hs'.out.cur hb4 hgB, rowIs_below hs'.out.tree hb4 htB, hs'.out.ne, hs'.out.low, hs'.out.bel.trans (hb4.mono hwB)⟩)
        have hown4' := Lib.hid (show w4.ownsRow B 3 1 v' (vis ++ [(k : Int)]).length ((vis ++ [(k : Int)]).map (Value.int .i64)) by simpa using hown4)
        have hs4b := Lib.hid hb4.size
        clear hown4 hgrow hown hb4
        by_cases h0 : k = 0
        · subst h0
          have hz := Lib.hid (show Steps w1 w4 g t A n c (-1) by have := hs4.out; rw [ht.root] at this; exact this)
          go_wp2_with fail
          refine (step_stop _ _ _ _ _ w1 w4 hz.out).mono ?_
          rintro e w5 ⟨rfl, rfl⟩
          go_wp2_with fail
          go_roundw
          case rel =>
            refine ⟨vis ++ [((0 : Nat) : Int)], Lib.hid ⟨hown4'.out, Nat.le_trans hsz hs4b.out, by have := hd'.out; simp; omega, .inr ⟨rfl, ?_, hz.out.bel⟩⟩, by have := hd'.out; simp; omega⟩
            rw [hw'.out, wayV_root]; simp
          case measure => simp [intOf]
        · have hu := ht.up hk1 h0
          have hde := dep_step ht hk1 h0
          have hst := Lib.hid (wayV_step ht hk1 h0)
          have hs5 := Lib.hid (show Steps w1 w4 g t A n c (parN ts k : Nat) by rw [← hu.1]; exact hs4.out)
          have hu2 := hu.2
          have hde' := Lib.hid hde
          clear hu hde
          go_wp2_with fail
          refine (step_eq _ _ _ _ _ ts (parN ts k) w1 w4 h1.out hn hs5.out (by rw [← hln.out]; omega)).mono ?_
          rintro e w5 ⟨rfl, hw5⟩
          have hfin := Lib.hid (show Noted w1 w5 B g t A n c ts k0 v' (.int .i64 (parN ts k : Nat)) (vis ++ [(k : Int)]) from by
            subst hw5
            refine ⟨ownsRow_setCell_below hown4'.out hgB _, by simp; exact Nat.le_trans hsz hs4b.out, by have := hd'.out; have := hde'.out; simp; omega, .inl ⟨parN ts k, rfl, by omega, by have := hd'.out; have := hde'.out; simp; omega, ?_, hs5.out.set _⟩⟩
            rw [hw'.out, hst.out]; simp)
          clear hw5
          go_wp2_with fail
          go_roundw
          case rel => exact ⟨_, hfin, by have := hd'.out; have := hde'.out; simp; omega⟩
          case measure => simp [intOf]; omega
      · have hown := hno.out.own
        have hrl : vis.length = dep ts k0 + 1 := by rw [← hwl.out, hw]; simp
        obtain ⟨A2, c2, rfl, hoa⟩ := OwnAt.of_owns hown
        obtain ⟨g2, m2, f2, rfl, hm2, hrow, hf2⟩ := hoa.own (by omega)
        have hlow : B ≤ g2 := (hoa.low _ rfl).1
        have hw' := Lib.hid hw; have hb' := Lib.hid hbel; have hrow' := Lib.hid hrow; have hf2' := Lib.hid hf2
        have hrl' := Lib.hid hrl
        have hwlow := u1.out.size
        clear hw hbel hown hoa hrow hf2 hrl
        go_wp2_with fail
        refine (rev_any g2 vis.length m2 c2 f2 vis wr hrow'.out hf2'.out rfl hm2 (by rw [hrl'.out]; omega) (by omega)).mono ?_
        rintro e w6 ⟨rfl, ⟨f6, hrow6, hf6⟩, honly⟩
        have hfin := Lib.hid (show OwnAt w6 w.heap.size (some ⟨g2, 0, none⟩) vis.length (wayV ts k0) from ⟨by rw [hw'.out]; simp, fun _ => ⟨g2, m2, f6, rfl, hm2, hrow6, by rw [hw'.out]; exact hf6⟩, fun ad e => by cases e; exact ⟨by show w.heap.size ≤ g2; omega, hrow6.lt⟩⟩)
        have hbel6 := Lib.hid (u1.out.trans ((hb'.out.mono hwlow).trans (honly.below (fun ad e => by cases e; show w.heap.size ≤ g2; omega))))
        clear hrow6 hf6 honly
        go_wp2_with fail
        go_ret2
        exact ⟨_, _, _, rfl, by rw [hr.out]; exact hfin.out, hbel6.out⟩
end Go.Proofs.Ythiegfbdmmpabab
