/- What is proved here: what the program's liarsIn and LiarsIn return. No conditions but lengths. -/
import Derived.Test.YthiegfbdmmpabaaLiarsPlain
import Derived.Test.YthiegfbdmmpabaaVotePool
import Derived.Test.YthiegfbdmmpabaaPutWalk
import Derived.Test.YthiegfbdmmpabaaShelf
import Derived.Lib.OwnBridge
import Derived.Deep.RegionHeld3
import Derived.Deep.Cut
import Derived.Deep.CutRange
namespace Go.Proofs.Ythiegfbdmmpabaa
open Go.RowKit

/-- An append in a plain walk, with where the result lies. -/
theorem appendV {P : Program} (w : World) {ops : Array Oper} {rest : List Oper} {o : Oper} {a : Act} {Q : Exit → Act → World → Prop} (hg : o.guard = none) (s x : Operand) (t : TypeId)
    (hop : o.op = Op.call { callee := Callee.builtin Builtin.append, args := #[s, x], argTypes := #[t, t] }) (base : Nat) (i : TypeInfo)
    (h1 : P.underlying t = some (.slice 3)) (h2 : P.info? 3 = some i) (h3 : i.zero = some (.int .i64 0)) (h4 : i.size = 1) (h5 : i.bytes = 8)
    (v : Value) (ys : List Int) (hs : a.eval s = v) (hown : w.ownsRow base 3 1 v ys.length (ys.map (Value.int .i64))) (ab ao : Nat) (c : Nat) (y : Int) (hx : a.eval x = .slice (some ⟨ab, ao, none⟩) 1 c) (hc : w.cell? ⟨ab, ao, none⟩ = some (.int .i64 y))
    (b1 : ys.length ≤ 1048576) (b3 : base ≤ w.heap.size)
    (hK : ∀ g c' w', w'.ownsRow base 3 1 (.slice (some ⟨g, 0, none⟩) (ys.length + 1) c') (ys ++ [y]).length ((ys ++ [y]).map (Value.int .i64)) → w.grownBy w' v.ownBlock → (v.ownBlock = some g ∨ g = w.heap.size) → wpList P ops Q rest (a.put o.dst (.slice (some ⟨g, 0, none⟩) (ys.length + 1) c')) w') :
    wpList P ops Q (o :: rest) a w := by
  refine wpList_append_own_at w hg s x t hop base 3 i (.int .i64 0) 1 8 h1 h2 h3 h4 h5 rfl (by decide) v ys.length _ hs hown ⟨ab, ao, none⟩ 1 c [.int .i64 y] hx rfl
    (fun j u hu => by
      cases j with
      | zero => simp at hu; subst hu; rw [Addr.add_lit]; exact hc
      | succ j => simp at hu)
    (by simp [Value.oneCell']) (by simp only [maxLen]; omega) (by omega) b3 ?_
  intro v' w' r1 r2 _ r4
  obtain ⟨g, c', rfl⟩ := ownsRow_succ r1
  refine hK g c' w' (by simpa using r1) r2 ?_
  rcases r4 with e | e
  · exact .inl (by rw [← e]; rfl)
  · exact .inr (by simpa [Value.ownBlock] using e)

/-- A box of a vote. -/
def VtBox (w : World) (g : Nat) (v : Vt) : Prop := w.cell? ⟨g, 0, none⟩ = some (.int .i64 v.1) ∧ w.cell? ⟨g, 1, none⟩ = some (.int .i64 v.2.1) ∧ w.cell? ⟨g, 2, none⟩ = some (.int .i64 v.2.2) ∧ g < w.heap.size

theorem two_vt (w : World) (a1 a2 a3 b1 b2 b3 : Int) (t : TypeId) : VtBox ((w.alloc (.cells #[.int .i64 a1, .int .i64 a2, .int .i64 a3] t)).alloc (.cells #[.int .i64 b1, .int .i64 b2, .int .i64 b3] t)).drew w.heap.size (a1, a2, a3) ∧
    VtBox ((w.alloc (.cells #[.int .i64 a1, .int .i64 a2, .int .i64 a3] t)).alloc (.cells #[.int .i64 b1, .int .i64 b2, .int .i64 b3] t)).drew (w.heap.size + 1) (b1, b2, b3) ∧
    Below w.heap.size w ((w.alloc (.cells #[.int .i64 a1, .int .i64 a2, .int .i64 a3] t)).alloc (.cells #[.int .i64 b1, .int .i64 b2, .int .i64 b3] t)).drew := by
  obtain ⟨W, hW, c1, c2, c3, d1, d2, d3, hb, hs⟩ := two_boxes w a1 a2 a3 b1 b2 b3 t
  rw [hW]
  exact ⟨⟨c1, c2, c3, by show w.heap.size < W.heap.size; omega⟩, ⟨d1, d2, d3, by show w.heap.size + 1 < W.heap.size; omega⟩, ⟨hb.os, hb.tape, hb.output, hb.size, hb.block⟩⟩
theorem ret_slice {A : Option Addr} {n n' c : Nat} (h : n = n') : Ending.returned (.slice A n c) = Ending.returned (.slice A n' c) := by rw [h]
theorem owns_belowV {w w' : World} {B : Nat} {v : Value} {n : Nat} {xs : List Value} (h : w.ownsRow B 3 1 v n xs) (hb : Below w.heap.size w w') : w'.ownsRow B 3 1 v n xs := by
  refine ⟨h.1, ?_⟩
  rcases h.2 with h' | ⟨g, cap, cur, e, h1, h2, h3⟩
  · exact .inl h'
  · exact .inr ⟨g, cap, cur, e, h1, (hb.block g (Array.getElem?_eq_some_iff.1 h2).1).trans h2, h3⟩

set_option maxRecDepth 100000 in
set_option maxHeartbeats 1600000 in
theorem liarsIn_any (V : Option Addr) (m d : Nat) (vs : List Vt) (w : World) (hv : VotesAt w w.heap.size V m vs) (hm : m ≤ 60) (hs : ∀ k, k < vs.length → k ≠ 0 → lessV (getV vs (k - 1)) (getV vs k) = true) :
    Calls Try.prog 130 #[.agg #[.slice V m d]] w (RetSl w (putsL vs m)) := by
  obtain ⟨i0, hi, hz0, hz1, hz2⟩ := put_parts put_info3
  have hlv := Lib.hid hv.1
  have hvv := Lib.hid hv; clear hv
  have hs' := Lib.hid hs; clear hs
  have bx0 := Lib.hid (Bx.start w (.slice V m d) 55)
  have hc0 := bx0.out.cell
  go_enter Try.func130, Try.ntmps130
  go_wp2_with fail
  clear hc0
  go_loopw [3, 4, 5, 6] (fun o i _ _ wr => ∃ k : Nat, 1 ≤ k ∧ (k ≤ m ∨ k = 1) ∧ i = .int .i64 k ∧ Hid (wr.ownsRow (w.heap.size + 1) 3 1 o (rawL vs k).length ((rawL vs k).map (Value.int .i64))) ∧ Hid (Bx w (.slice V m d) 55 wr)) (fun _ i _ _ _ => m + 1 - (intOf i).toNat)
  case atStart => exact ⟨1, Nat.le_refl _, .inr rfl, rfl, Lib.hid (World.ownsRow_nil _ _ _ _), bx0⟩
  case round =>
    obtain ⟨k, hk1, hk, rfl, ho, hbx⟩ := hrel
    have hcx := hbx.out.cell
    by_cases hlt : k < m
    · obtain ⟨vb, vo, rfl, hvb, hcs⟩ := hvv.out.at (by omega)
      obtain ⟨K, hK⟩ : ∃ K, k - 1 = K := ⟨_, rfl⟩
      have hKm : K < m := by omega
      obtain ⟨a, ha⟩ : ∃ a, getV vs K = a := ⟨_, rfl⟩
      obtain ⟨b, hb⟩ : ∃ b, getV vs k = b := ⟨_, rfl⟩
      have p0 := (hbx.out.below.cell (p := ⟨vb, vo + K * 3, none⟩) hvb).trans (hcs K hKm).1
      have p1 := (hbx.out.below.cell (p := ⟨vb, vo + K * 3 + 1, none⟩) hvb).trans (hcs K hKm).2.1
      have p2 := (hbx.out.below.cell (p := ⟨vb, vo + K * 3 + 2, none⟩) hvb).trans (hcs K hKm).2.2
      have q0 := (hbx.out.below.cell (p := ⟨vb, vo + k * 3, none⟩) hvb).trans (hcs k hlt).1
      have q1 := (hbx.out.below.cell (p := ⟨vb, vo + k * 3 + 1, none⟩) hvb).trans (hcs k hlt).2.1
      have q2 := (hbx.out.below.cell (p := ⟨vb, vo + k * 3 + 2, none⟩) hvb).trans (hcs k hlt).2.2
      rw [ha] at p0 p1 p2
      rw [hb] at q0 q1 q2
      obtain ⟨a1, a2, a3⟩ := a
      obtain ⟨b1, b2, b3⟩ := b
      simp only at p0 p1 p2 q0 q1 q2
      have hKI : (k : Int) - 1 = (K : Int) := by omega
      have hKw : IntKind.i64.wrap ((k : Int) - 1) = (K : Int) := by rw [hKI]; exact wrap_natV (by omega)
      have hKmI : (K : Int) < (m : Int) := by omega
      have hkI : (k : Int) < (m : Int) := by omega
      have hbw := Lib.hid (show (getV vs k).1 = b1 by rw [hb])
      have hst := Lib.hid (show liarAt vs k = (a1 == b1 && a2 == b2) by unfold liarAt; rw [decide_eq_true (by omega), hK, ha, hb]; rfl)
      clear hcs ha hb hK hKI
      go_upto_region 5 with fail
      go_cut [5, 6] from 14 to 24 (fun s t wx => ∃ p q, s = .pointer (some ⟨p, 0, none⟩) ∧ t = .pointer (some ⟨q, 0, none⟩) ∧ Hid (VtBox wx p (a1, a2, a3)) ∧ Hid (VtBox wx q (b1, b2, b3)) ∧ Hid (Below wr.heap.size wr wx))
      case first =>
        go_region_held3 (fun w' => w'.cell? ⟨w.heap.size, 0, none⟩ = some (.slice (some ⟨vb, vo, none⟩) m d) ∧ w'.cell? ⟨vb, vo + K * 3, none⟩ = some (.int .i64 a1) ∧ w'.cell? ⟨vb, vo + K * 3 + 1, none⟩ = some (.int .i64 a2) ∧ w'.cell? ⟨vb, vo + K * 3 + 2, none⟩ = some (.int .i64 a3) ∧ w'.cell? ⟨vb, vo + k * 3, none⟩ = some (.int .i64 b1) ∧ w'.cell? ⟨vb, vo + k * 3 + 1, none⟩ = some (.int .i64 b2) ∧ w'.cell? ⟨vb, vo + k * 3 + 2, none⟩ = some (.int .i64 b3)) (go_keep) (fail)
        · obtain ⟨x1, x2, x3⟩ := two_vt wr a1 a2 a3 b1 b2 b3 63
          have y1 := Lib.hid x1; have y2 := Lib.hid x2; have y3 := Lib.hid x3
          clear x1 x2 x3
          first | go_meet | (go_wp2_with fail; go_meet)
          case rel => exact ⟨_, _, rfl, rfl, y1, y2, y3⟩
        · obtain ⟨x1, x2, x3⟩ := two_vt wr b1 b2 b3 a1 a2 a3 63
          have y1 := Lib.hid x1; have y2 := Lib.hid x2; have y3 := Lib.hid x3
          clear x1 x2 x3
          first | go_meet | (go_wp2_with fail; go_meet)
          case rel => exact ⟨_, _, rfl, rfl, y2, y1, y3⟩
      case rest =>
        obtain ⟨p, q, rfl, rfl, hp, hq, hbc⟩ := hcut
        obtain ⟨e0, e1, _, hpl⟩ := hp.out
        obtain ⟨f0, f1, _, hql⟩ := hq.out
        simp only at e0 e1 f0 f1
        have ho2 := Lib.hid (owns_belowV ho.out hbc.out)
        have bx2 := Lib.hid (hbx.out.step hbc.out)
        have hws := bx2.out.size
        clear p0 p1 p2 q0 q1 q2 hcx
        by_cases g1 : a1 = b1
        · have c1 : (a1 == b1) = true := by simp [g1]
          by_cases g2 : a2 = b2
          · have c2 : (a2 == b2) = true := by simp [g2]
            have hnx := Lib.hid (show rawL vs (k + 1) = rawL vs k ++ [b1] by simp only [rawL]; rw [hst.out, c1, c2, hbw.out]; rfl)
            have hrl := rawL_len vs k
            clear g1 g2
            go_wp2_with (at_builtin; refine appendV _ rfl _ _ 23 rfl (w.heap.size + 1) i0 Try.underlying23 hi hz0 hz1 hz2 _ (rawL vs k) rfl (ho2.out.alloc _) wc.heap.size 0 1 b1 rfl ((bx_row wc (.int .i64 b1) 3).cell (i := 0) (by omega)) (by omega) (by simp; omega) ?_; intro g c' w3 r1 r2 r3; have z1 := Lib.hid r1; have z2 := Lib.hid r2; clear r1 r2 r3)
            have bx3 := Lib.hid (show Bx w (.slice (some ⟨vb, vo, none⟩) m d) 55 w3 from ⟨((bx2.out.up.alloc hws (.cells #[.int .i64 b1] 3)).grown z2.out (by simp; omega) (fun j e => ((ho2.out.alloc (.cells #[.int .i64 b1] 3)).lt j e).1))⟩)
            go_roundw
            case rel => exact ⟨k + 1, by omega, by omega, by go_num, Lib.hid (by rw [hnx.out]; simpa using z1.out), bx3⟩
            case measure => simp [intOf]; omega
          · have c2 : (a2 == b2) = false := by simp [g2]
            have hnx := Lib.hid (show rawL vs (k + 1) = rawL vs k by simp only [rawL]; rw [hst.out, c1, c2]; rfl)
            clear g1 g2
            go_wp2_with fail
            go_roundw
            case rel => exact ⟨k + 1, by omega, by omega, by go_num, Lib.hid (by rw [hnx.out]; exact ho2.out), bx2⟩
            case measure => simp [intOf]; omega
        · have c1 : (a1 == b1) = false := by simp [g1]
          have hnx := Lib.hid (show rawL vs (k + 1) = rawL vs k by simp only [rawL]; rw [hst.out, c1]; rfl)
          clear g1
          go_wp2_with fail
          go_roundw
          case rel => exact ⟨k + 1, by omega, by omega, by go_num, Lib.hid (by rw [hnx.out]; exact ho2.out), bx2⟩
          case measure => simp [intOf]; omega
    · have hraw := Lib.hid (show rawL vs k = rawL vs m by
        rcases hk with h | h
        · have : k = m := by omega
          rw [this]
        · subst h
          have h0 : m = 0 ∨ m = 1 := by omega
          rcases h0 with h0 | h0 <;> subst h0 <;> rfl)
      have hfin := Lib.hid (show Lib.compact (rawL vs m) = putsL vs m by rw [← hlv.out]; exact liars_eq hs'.out)
      have ho' := ho.out
      rw [hraw.out] at ho'
      have hlm := rawL_len vs m
      have hbel := Lib.hid hbx.out.below
      clear hk ho
      rcases ho'.2 with ⟨rfl, h0⟩ | ⟨g, cap, cur, rfl, hgb, hgc, hgn, hgm, _, _⟩
      · have h00 : rawL vs m = [] := List.length_eq_zero_iff.1 h0
        have hnil := Lib.hid (show putsL vs m = [] by rw [← hfin.out, h00]; rfl)
        rw [h00] at hraw hfin
        clear ho' h0 h00
        go_wp2_with (go_at_call 171; refine (Try.slices_Compact_int_empty none 0 _).mono ?_; rintro e w' ⟨rfl, rfl⟩)
        go_ret
        exact ⟨none, 0, 0, rfl, by rw [hnil.out]; exact own_nil _ _, hbel.out⟩
      · have hown := Lib.hid ho'
        obtain ⟨g', cap', e, hbg, hgl, hnc, hcm, hlen, hH⟩ := Lib.holds_of_ownsRow ho' (by simp)
        cases e
        have hC := Lib.hid (Try.slices_Compact_int g 0 cap (rawL vs m) wr hH (by omega) (by omega))
        clear ho' hH
        go_wp2_with (go_at_call 171; refine hC.out.mono ?_; rintro e w' ⟨rfl, nn, rfl⟩)
        go_ret
        have hcl := Lib.compact_length_le (rawL vs m)
        have hr := Lib.ownsRow_putRow (q := nn) (k := (Lib.compact (rawL vs m)).length) (ys := Lib.compact (rawL vs m) ++ List.replicate ((rawL vs m).length - (Lib.compact (rawL vs m)).length) 0) hown.out (by simp; omega) (by omega)
        rw [List.take_left, hfin.out] at hr
        obtain ⟨A1, c1, e1, o1⟩ := OwnAt.of_owns hr
        have hA1 : A1 = some ⟨g, 0, none⟩ ∧ c1 = cap := by injection e1 with e1 _ e3; exact ⟨e1.symm, e3.symm⟩
        rw [hA1.1] at o1
        refine ⟨some ⟨g, 0, none⟩, (putsL vs m).length, cap, ret_slice (by rw [hfin.out]), ?_, Lib.below_putRow hbel.out (Nat.le_of_succ_le hbg)⟩
        rw [hfin.out]
        exact o1.fewer (Nat.le_succ _)

def liarsR (ts : List Blk) (ss : List Int) (vs : List Vt) : List Int := if poolOk ts ss vs = true then putsL vs vs.length else []
theorem liarsR_len (ts : List Blk) (ss : List Int) (vs : List Vt) : (liarsR ts ss vs).length ≤ 100 := by
  unfold liarsR
  split
  · next h => have := (poolOk_iff.1 h).1.2; have := putsL_len vs vs.length; omega
  · exact Nat.zero_le _

set_option maxRecDepth 100000 in
set_option maxHeartbeats 800000 in
theorem implLiars_any (A : Option Addr) (n c : Nat) (ts : List Blk) (A' : Option Addr) (n' c' : Nat) (ss : List Int) (V : Option Addr) (m d : Nat) (vs : List Vt) (w : World) (h : BlksAt w w.heap.size A n ts) (h' : IntsAt w w.heap.size A' n' ss) (hv : VotesAt w w.heap.size V m vs) (hn : n ≤ 1048576) (hn' : n' ≤ 1048576) (hm : m ≤ 1048576) :
    Calls Try.prog 61 #[.slice A n c, .slice A' n' c', .agg #[.slice V m d]] w (RetOwn w (poolOk ts ss vs) (liarsR ts ss vs)) := by
  have hlv := Lib.hid hv.1
  have hh := Lib.hid h; have hh' := Lib.hid h'; have hvv := Lib.hid hv; clear h h' hv
  have bx0 := Lib.hid (Bx.start w (.slice V m d) 55)
  have hc0 := bx0.out.cell
  cases hg : poolOk ts ss vs
  · have hr := Lib.hid (show liarsR ts ss vs = [] by unfold liarsR; rw [hg]; rfl)
    go_enter Try.func61, Try.ntmps61
    go_wp2_with (go_at_call 51; refine (goodPool_any A n c ts A' n' c' ss V m d vs _ (hh.out.up bx0.out.below) (hh'.out.up' bx0.out.below) (hvv.out.up bx0.out.below) hn hn' hm).mono ?_; rintro e w1 ⟨rfl, b1⟩; rw [hg]; have bx1 := Lib.hid (bx0.out.step b1); clear b1)
    go_ret2
    exact ⟨none, 0, 0, rfl, by rw [hr.out]; exact own_nil _ _, bx1.out.below⟩
  · obtain ⟨⟨_, h60⟩, _, hs⟩ := poolOk_iff.1 hg
    have hr := Lib.hid (show liarsR ts ss vs = putsL vs m by unfold liarsR; rw [hg, if_pos rfl, hlv.out])
    have hs' := Lib.hid hs
    have hm60 : m ≤ 60 := by rw [← hlv.out]; exact h60
    clear hs h60
    go_enter Try.func61, Try.ntmps61
    go_wp2_with (first
      | (go_at_call 51; refine (goodPool_any A n c ts A' n' c' ss V m d vs _ (hh.out.up bx0.out.below) (hh'.out.up' bx0.out.below) (hvv.out.up bx0.out.below) hn hn' hm).mono ?_; rintro e w1 ⟨rfl, b1⟩; rw [hg]; have bx1 := Lib.hid (bx0.out.step b1); have hc1 := bx1.out.cell; clear b1)
      | (go_at_call 130; refine (liarsIn_any V m d vs _ (hvv.out.up bx1.out.below) hm60 hs'.out).mono ?_; rintro e w2 ⟨A2, n2, c2, rfl, o2, b2⟩; have o2' := Lib.hid (o2.fewer bx1.out.below.size); have bx2 := Lib.hid (bx1.out.step b2); clear o2 b2))
    go_ret2
    exact ⟨A2, n2, c2, rfl, by rw [hr.out]; exact o2'.out, bx2.out.below⟩
end Go.Proofs.Ythiegfbdmmpabaa
