/- What is proved here: what the program's JustifiedIn returns. No conditions but lengths. -/
import Derived.Test.YthiegfbdmmpabaaLinkWhoImpl
import Derived.Test.YthiegfbdmmpabaaJustSpec
namespace Go.Proofs.Ythiegfbdmmpabaa
open Go.RowKit

set_option maxRecDepth 100000 in
theorem just1_any (A' : Option Addr) (n' c' : Nat) (ss : List Int) (V : Option Addr) (m d : Nat) (vs : List Vt) (x k : Int) (g1 g2 g3 : Nat) (w : World) (ts : List Blk) (hok : linksOk ts ss vs = true) (h' : IntsAt w w.heap.size A' n' ss) (hv : VotesAt w w.heap.size V m vs)
    (c1 : w.cell? ⟨g1, 0, none⟩ = some (.slice A' n' c')) (c2 : w.cell? ⟨g2, 0, none⟩ = some (.slice V m d)) (c3 : w.cell? ⟨g3, 0, none⟩ = some (.int .i64 k)) :
    Calls Try.prog 159 #[.int .i64 x, .pointer (some ⟨g1, 0, none⟩), .pointer (some ⟨g2, 0, none⟩), .pointer (some ⟨g3, 0, none⟩)] w (UpPost w (.bool (grB ss vs x k))) := by
  have his := Lib.hid (isLinked_any A' n' c' ss V m d vs x k w ts hok h' hv)
  clear h' hv hok
  go_enter Try.func159, Try.ntmps159
  go_wp2_with (go_at_call 100; refine his.out.mono ?_; rintro e w1 ⟨rfl, b1⟩; have u1 := Lib.hid b1; clear b1)
  go_ret
  exact ⟨rfl, u1.out⟩

/-- What the closure looks at: the stakes, the links and the block, each in a box. -/
structure JBox (w : World) (g1 g2 g3 : Nat) (A' : Option Addr) (n' c' : Nat) (V : Option Addr) (m d : Nat) (k : Int) : Prop where
  r1 : w.rowIs g1 23 1 (fun _ => .slice A' n' c')
  r2 : w.rowIs g2 31 1 (fun _ => .slice V m d)
  r3 : w.rowIs g3 3 1 (fun _ => .int .i64 k)
theorem JBox.up {w w' : World} {g1 g2 g3 n' c' m d : Nat} {A' V : Option Addr} {k : Int} (h : JBox w g1 g2 g3 A' n' c' V m d k) (hb : Below w.heap.size w w') : JBox w' g1 g2 g3 A' n' c' V m d k :=
  ⟨rowIs_below h.r1 hb h.r1.lt, rowIs_below h.r2 hb h.r2.lt, rowIs_below h.r3 hb h.r3.lt⟩

set_option maxRecDepth 100000 in
set_option maxHeartbeats 800000 in
theorem indexJ_any (A : Option Addr) (n c : Nat) (xs : List Int) (A' : Option Addr) (n' c' : Nat) (ss : List Int) (V : Option Addr) (m d : Nat) (vs : List Vt) (k : Int) (g1 g2 g3 : Nat) (w : World) (ts : List Blk) (hok : linksOk ts ss vs = true) (h : IntsAt w w.heap.size A n xs) (h' : IntsAt w w.heap.size A' n' ss) (hv : VotesAt w w.heap.size V m vs) (hn : n ≤ 1000) (hb : JBox w g1 g2 g3 A' n' c' V m d k) :
    Calls Try.prog 178 #[.slice A n c, .func (.func 159) #[] #[.pointer (some ⟨g1, 0, none⟩), .pointer (some ⟨g2, 0, none⟩), .pointer (some ⟨g3, 0, none⟩)]] w fun e w' =>
      ((xs.any (fun f => grB ss vs f k) = true ∧ ∃ q : Nat, q ≤ 1000 ∧ e = .returned (.int .i64 q)) ∨ (xs.any (fun f => grB ss vs f k) = false ∧ e = .returned (.int .i64 (-1)))) ∧ Below w.heap.size w w' := by
  have hl := Lib.hid h.1
  have hh := Lib.hid h; have hh' := Lib.hid h'; have hvv := Lib.hid hv; have hbb := Lib.hid hb; have hok' := Lib.hid hok
  clear h h' hv hb hok
  go_enter Try.func178, Try.ntmps178
  go_wp2_with fail
  go_loopw [5, 8] (fun _ i wr => ∃ j : Nat, j ≤ n ∧ i = .int .i64 j ∧ Hid (∀ q, q < j → grB ss vs (xs[q]?.getD 0) k = false) ∧ Hid (Below w.heap.size w wr)) (fun _ i _ => n - (intOf i).toNat)
  case atStart => exact ⟨0, Nat.zero_le _, rfl, Lib.hid (fun _ h => absurd h (Nat.not_lt_zero _)), Lib.hid (Below.refl _ _)⟩
  case round =>
    obtain ⟨j, hj, rfl, hno, hbel⟩ := hrel
    by_cases hlt : j < n
    · obtain ⟨lb, lo, rfl, _, hc⟩ := (hh.out.up' hbel.out).2 j hlt
      obtain ⟨x, hx⟩ : ∃ x, xs[j]?.getD 0 = x := ⟨_, rfl⟩
      rw [hx] at hc
      have hx' := Lib.hid hx
      have B := hbb.out.up (w' := wr) hbel.out
      have hcl := Lib.hid (just1_any A' n' c' ss V m d vs x k g1 g2 g3 wr ts hok'.out (hh'.out.up' hbel.out) (hvv.out.up hbel.out) (B.r1.cell (i := 0) (by omega)) (B.r2.cell (i := 0) (by omega)) (B.r3.cell (i := 0) (by omega)))
      clear hx B
      cases g : grB ss vs x k
      · rw [g] at hcl
        have hnx := Lib.hid (show ∀ q, q < j + 1 → grB ss vs (xs[q]?.getD 0) k = false from fun q hq => by
          by_cases e : q = j
          · rw [e, hx'.out]; exact g
          · exact hno.out q (by omega))
        clear g
        go_wp2_with fail
        refine hcl.out.mono ?_
        rintro e w4 ⟨rfl, b4⟩
        have u4 := Lib.hid (hbel.out.trans (b4.mono hbel.out.size))
        clear b4 hcl
        go_wp2_with fail
        go_roundw
        case rel => exact ⟨j + 1, by omega, by go_num, hnx, u4⟩
        case measure => simp [intOf]; omega
      · rw [g] at hcl
        have hyes := Lib.hid (any_at (p := fun f => grB ss vs f k) (show j < xs.length by rw [hl.out]; exact hlt) (by rw [hx'.out]; exact g))
        clear g
        go_wp2_with fail
        refine hcl.out.mono ?_
        rintro e w4 ⟨rfl, b4⟩
        have u4 := Lib.hid (hbel.out.trans (b4.mono hbel.out.size))
        clear b4 hcl
        go_wp2_with fail
        go_ret
        exact ⟨.inl ⟨hyes.out, j, by omega, rfl⟩, u4.out⟩
    · have hno2 := Lib.hid (any_none (p := fun f => grB ss vs f k) (l := xs) (fun q hq => hno.out q (by have := hl.out; omega)))
      go_wp2_with fail
      go_ret
      exact ⟨.inr ⟨hno2.out, rfl⟩, hbel.out⟩
set_option maxRecDepth 100000 in
set_option maxHeartbeats 800000 in
theorem containsJ_any (A : Option Addr) (n c : Nat) (xs : List Int) (A' : Option Addr) (n' c' : Nat) (ss : List Int) (V : Option Addr) (m d : Nat) (vs : List Vt) (k : Int) (g1 g2 g3 : Nat) (w : World) (ts : List Blk) (hok : linksOk ts ss vs = true) (h : IntsAt w w.heap.size A n xs) (h' : IntsAt w w.heap.size A' n' ss) (hv : VotesAt w w.heap.size V m vs) (hn : n ≤ 1000) (hb : JBox w g1 g2 g3 A' n' c' V m d k) :
    Calls Try.prog 158 #[.slice A n c, .func (.func 159) #[] #[.pointer (some ⟨g1, 0, none⟩), .pointer (some ⟨g2, 0, none⟩), .pointer (some ⟨g3, 0, none⟩)]] w (UpPost w (.bool (xs.any (fun f => grB ss vs f k)))) := by
  have hi := Lib.hid (indexJ_any A n c xs A' n' c' ss V m d vs k g1 g2 g3 w ts hok h h' hv hn hb)
  clear h h' hv hb hok
  go_enter Try.func158, Try.ntmps158
  go_wp2_with fail
  refine hi.out.mono ?_
  rintro e w1 ⟨⟨hy, q, hq, rfl⟩ | ⟨hy, rfl⟩, b1⟩
  · have hy' := Lib.hid hy; have u1 := Lib.hid b1
    have hq0 : (0 : Int) ≤ (q : Int) := by omega
    clear hy b1 hi
    go_wp2_with fail
    go_ret
    exact ⟨ret_bool (by simp [hy'.out]), u1.out⟩
  · have hy' := Lib.hid hy; have u1 := Lib.hid b1
    clear hy b1 hi
    go_wp2_with fail
    go_ret
    exact ⟨ret_bool (by simp [hy'.out]), u1.out⟩

theorem row_one_set' {w : World} {g : Nat} {t : TypeId} {f : Nat → Value} (h : w.rowIs g t 1 f) (v : Value) : (w.setCell ⟨g, 0, none⟩ v).rowIs g t 1 (fun _ => v) := (h.set 0 v).congr (fun i hi => by rw [if_pos (by omega)])
theorem owns_setO {w : World} {base : Nat} {e : TypeId} {size : Nat} {v : Value} {n : Nat} {xs : List Value} (h : w.ownsRow base e size v n xs) {g : Nat} (hg : v.ownBlock ≠ some g) (u : Value) : (w.setCell ⟨g, 0, none⟩ u).ownsRow base e size v n xs := by
  obtain ⟨h1, h2⟩ := h
  refine ⟨h1, ?_⟩
  rcases h2 with h2 | ⟨g', cap, cur, rfl, q2, q3, q4⟩
  · exact .inl h2
  · exact .inr ⟨g', cap, cur, rfl, q2, (Below.heap_setCell w ⟨g, 0, none⟩ u g' (fun e => hg (by rw [← show g' = g from e]; rfl))).trans q3, q4⟩
theorem jbox_start (w : World) (A' : Option Addr) (n' c' : Nat) (V : Option Addr) (m d : Nat) (W : World) (hW : W = ((((w.alloc (.cells #[.slice A' n' c'] 23)).alloc (.cells #[.slice V m d] 31)).alloc (.cells #[.int .i64 0] 3)).alloc (.cells #[.int .i64 1] 3))) :
    JBox W w.heap.size (w.heap.size + 1) (w.heap.size + 3) A' n' c' V m d 1 ∧ W.ownsRow (w.heap.size + 2) 3 1 (.slice (some ⟨w.heap.size + 2, 0, none⟩) 1 1) 1 [.int .i64 0] ∧ Below w.heap.size w W ∧ W.heap.size = w.heap.size + 4 := by
  obtain ⟨r1, r2, r3, r4, bW, sW⟩ := bx4_rows w (.slice A' n' c') (.slice V m d) (.int .i64 0) (.int .i64 1) 23 31 3 3
  rw [← hW] at r1 r2 r3 r4 bW sW
  refine ⟨⟨r1, r2, r4⟩, ?_, bW, sW⟩
  have h0 := own0 ((w.alloc (.cells #[.slice A' n' c'] 23)).alloc (.cells #[.slice V m d] 31))
  have h1 := owns_belowL h0 (bx_below _ (.cells #[.int .i64 1] 3))
  rw [← hW] at h1
  simpa using h1

set_option maxRecDepth 100000 in
set_option maxHeartbeats 3200000 in
theorem justIn_any (A : Option Addr) (n c : Nat) (ts : List Blk) (A' : Option Addr) (n' c' : Nat) (ss : List Int) (V : Option Addr) (m d : Nat) (vs : List Vt) (w : World) (hok : linksOk ts ss vs = true) (h : BlksAt w w.heap.size A n ts) (h' : IntsAt w w.heap.size A' n' ss) (hv : VotesAt w w.heap.size V m vs) :
    Calls Try.prog 95 #[.slice A n c, .slice A' n' c', .slice V m d] w (RetSl w (justL ts ss vs)) := by
  have hmf : ∀ (fn : Fn) (first cap : Array Value) (w : World), (Instr.makeFunc fn first cap).run Try.prog w = .ok (.func fn first cap) w := fun _ _ _ _ => rfl
  obtain ⟨i0, hi, hz0, hz1, hz2⟩ := put_parts put_info3
  have ht := (linksOk_iff.1 hok).1.1.1
  have hl := Lib.hid h.1
  have hpos : 0 < n := by rw [← h.1]; exact ht.pos
  have hfew : n ≤ 24 := by rw [← h.1]; exact ht.few
  have hok' := Lib.hid hok
  have hh' := Lib.hid h'; have hvv := Lib.hid hv
  clear h h' hv ht hok
  obtain ⟨W0, hW0⟩ : ∃ W, W = ((((w.alloc (.cells #[.slice A' n' c'] 23)).alloc (.cells #[.slice V m d] 31)).alloc (.cells #[.int .i64 0] 3)).alloc (.cells #[.int .i64 1] 3)) := ⟨_, rfl⟩
  obtain ⟨j0, o0, u0, s0⟩ := jbox_start w A' n' c' V m d W0 hW0
  have j0' := Lib.hid j0; have o0' := Lib.hid o0; have u0' := Lib.hid u0; have s0' := Lib.hid s0
  have hW0' := Lib.hid hW0.symm
  clear hW0 j0 o0 u0 s0
  go_enter Try.func95, Try.ntmps95
  go_wp2_with fail
  rw [hW0'.out]
  go_loopw [7, 8] (fun o p wr => ∃ (k g : Nat), 1 ≤ k ∧ k ≤ n ∧ p = .pointer (some ⟨g, 0, none⟩) ∧ Hid (JBox wr w.heap.size (w.heap.size + 1) g A' n' c' V m d (k : Int)) ∧ Hid (wr.ownsRow (w.heap.size + 2) 3 1 o (justS ss vs (k - 1)).length ((justS ss vs (k - 1)).map (Value.int .i64))) ∧ Hid (∀ q, o.ownBlock = some q → q < g) ∧ Hid (w.heap.size + 2 < g) ∧ Hid (Below w.heap.size w wr)) (fun _ p wr => n - (intOf ((wr.cell? ⟨match p with | .pointer (some ad) => ad.block | _ => 0, 0, none⟩).getD (.int .i64 0))).toNat)
  case atStart => exact ⟨1, w.heap.size + 3, Nat.le_refl _, hpos, rfl, j0', o0', Lib.hid (fun q e => by have e2 : w.heap.size + 2 = q := by { injection e }; omega), Lib.hid (by omega), u0'⟩
  case round =>
    obtain ⟨k, g, hk1, hk, rfl, hjb, ho, hog, hgl, hbel⟩ := hrel
    obtain ⟨K, rfl⟩ : ∃ K, k = K + 1 := ⟨k - 1, by omega⟩
    rw [Nat.add_sub_cancel] at ho
    obtain ⟨J, hJ⟩ : ∃ J, justS ss vs K = J := ⟨_, rfl⟩
    have hJl := justS_len ss vs K
    have hst := Lib.hid (show justS ss vs (K + 1) = if J.any (fun f => grB ss vs f ((K + 1 : Nat) : Int)) = true then J ++ [((K + 1 : Nat) : Int)] else J by rw [← hJ]; rfl)
    rw [hJ] at ho hJl
    have hJ' := Lib.hid hJ
    have cb := hjb.out.r3.cell (i := 0) (by omega)
    clear hJ
    by_cases hlt : K + 1 < n
    · have hkI : ((K + 1 : Nat) : Int) < (n : Int) := by omega
      obtain ⟨kk, hkk⟩ : ∃ kk : Int, ((K + 1 : Nat) : Int) = kk := ⟨_, rfl⟩
      have hkk' := Lib.hid hkk
      have hkb : 0 ≤ kk ∧ kk < 100 := by omega
      rw [hkk] at hjb hst cb hkI
      obtain ⟨A1, cJ, e1, own1⟩ := OwnAt.of_owns ho.out
      obtain ⟨L, hL⟩ : ∃ L, J.length = L := ⟨_, rfl⟩
      have hL' := Lib.hid hL
      rw [hL] at e1 own1 hJl
      have hcon := Lib.hid (containsJ_any A1 L cJ J A' n' c' ss V m d vs kk w.heap.size (w.heap.size + 1) g wr ts hok'.out own1.ints (hh'.out.up' hbel.out) (hvv.out.up hbel.out) (by omega) hjb.out)
      subst e1
      clear own1 hL hkk
      have hm0 := Lib.hid cb
      cases gg : J.any (fun f => grB ss vs f kk)
      · rw [gg] at hcon
        have hnx := Lib.hid (show justS ss vs (K + 1) = J by rw [hst.out, gg]; rfl)
        clear gg
        go_wp2_with fail
        refine hcon.out.mono ?_
        rintro e w4 ⟨rfl, b4⟩
        have u4 := Lib.hid (hbel.out.trans (b4.mono hbel.out.size))
        have o4 := Lib.hid (owns_belowL ho.out b4)
        have j4 := Lib.hid (hjb.out.up b4)
        have s4 := Lib.hid b4.size
        clear b4 hcon cb
        have cb := j4.out.r3.cell (i := 0) (by omega)
        have kb2 := bx_below w4 (.cells #[.int .i64 (kk + 1)] 3)
        have gw := Lib.hid (show g < w4.heap.size from j4.out.r3.lt)
        have j6 := Lib.hid (show JBox (w4.alloc (.cells #[.int .i64 (kk + 1)] 3)) w.heap.size (w.heap.size + 1) w4.heap.size A' n' c' V m d ((K + 1 + 1 : Nat) : Int) from by
          have hkq := hkk'.out
          refine ⟨rowIs_below j4.out.r1 kb2 j4.out.r1.lt, rowIs_below j4.out.r2 kb2 j4.out.r2.lt, ?_⟩
          rw [show ((K + 1 + 1 : Nat) : Int) = kk + 1 by omega]
          exact bx_row w4 _ _)
        have o6 := Lib.hid (owns_belowL o4.out kb2)
        have u6 := Lib.hid (u4.out.trans (kb2.mono u4.out.size))
        have hm1 := Lib.hid (j6.out.r3.cell (i := 0) (by omega))
        clear kb2
        go_wp2_with fail
        go_roundw
        case rel =>
          have hlo := hgl.out; have hgw := gw.out
          refine ⟨K + 1 + 1, w4.heap.size, by omega, by omega, rfl, j6, Lib.hid ?_, Lib.hid (fun q e => by have := hog.out q e; omega), Lib.hid (by omega), u6⟩
          rw [Nat.add_sub_cancel, hnx.out]
          exact o6.out
        case measure =>
          have q1 := hm0.out; have q2 := hm1.out; have hkq := hkk'.out
          simp only [q1, q2, Option.getD_some, intOf]
          omega
      · rw [gg] at hcon
        have hnx := Lib.hid (show justS ss vs (K + 1) = J ++ [kk] by rw [hst.out, gg, if_pos rfl])
        clear gg
        go_wp2_with fail
        refine hcon.out.mono ?_
        rintro e w4 ⟨rfl, b4⟩
        have u4 := Lib.hid (hbel.out.trans (b4.mono hbel.out.size))
        have o4 := Lib.hid (owns_belowL ho.out b4)
        have j4 := Lib.hid (hjb.out.up b4)
        clear b4 hcon cb
        have cb := j4.out.r3.cell (i := 0) (by omega)
        have hws4 : w.heap.size + 2 ≤ w4.heap.size := by have := hgl.out; have := j4.out.r3.lt; omega
        have hJ1 : J.length ≤ 1048576 := by have := hL'.out; omega
        go_upto_region 7 with (at_builtin; refine appendV _ rfl _ _ 23 rfl (w.heap.size + 2) i0 Try.underlying23 hi hz0 hz1 hz2 _ J rfl (o4.out.alloc _) w4.heap.size 0 1 kk rfl ((bx_row w4 (.int .i64 kk) 3).cell (i := 0) (by omega)) hJ1 (by simp; omega) ?_; intro g9 c9 w9 r1 r2 r3; have z1 := Lib.hid r1; have z2 := Lib.hid r2; clear r1 r2 r3)
        have lo9 := Lib.hid (fun q (e : (Value.slice A1 L cJ).ownBlock = some q) => (o4.out.lt q e).1)
        have kb := bx_below w4 (.cells #[.int .i64 kk] 3)
        have zz : (w4.alloc (.cells #[.int .i64 kk] 3)).grownBy w9 (Value.slice A1 L cJ).ownBlock := z2.out
        have sz9 : (w4.alloc (.cells #[.int .i64 kk] 3)).heap.size = w4.heap.size + 1 := by simp
        have u9 := Lib.hid ((u4.out.trans (kb.mono u4.out.size)).grown zz (by rw [sz9]; omega) (fun j e => by have := lo9.out j e; omega))
        have a1 := rowIs_below j4.out.r1 kb j4.out.r1.lt
        have a2 := rowIs_below j4.out.r2 kb j4.out.r2.lt
        have a3 := rowIs_below j4.out.r3 kb j4.out.r3.lt
        have j9 := Lib.hid (show JBox w9 w.heap.size (w.heap.size + 1) g A' n' c' V m d kk from
          ⟨a1.of_block (zz.block _ a1.lt (fun e => by have := lo9.out _ e.symm; omega)), a2.of_block (zz.block _ a2.lt (fun e => by have := lo9.out _ e.symm; omega)), a3.of_block (zz.block _ a3.lt (fun e => by have := hog.out _ e.symm; omega))⟩)
        clear kb zz a1 a2 a3 cb sz9
        have cb := j9.out.r3.cell (i := 0) (by omega)
        have g9l := Lib.hid (z1.out.lt g9 rfl)
        have kb2 := bx_below w9 (.cells #[.int .i64 (kk + 1)] 3)
        have gw := Lib.hid (show g < w9.heap.size from j9.out.r3.lt)
        have j6 := Lib.hid (show JBox (w9.alloc (.cells #[.int .i64 (kk + 1)] 3)) w.heap.size (w.heap.size + 1) w9.heap.size A' n' c' V m d ((K + 1 + 1 : Nat) : Int) from by
          have hkq := hkk'.out
          refine ⟨rowIs_below j9.out.r1 kb2 j9.out.r1.lt, rowIs_below j9.out.r2 kb2 j9.out.r2.lt, ?_⟩
          rw [show ((K + 1 + 1 : Nat) : Int) = kk + 1 by omega]
          exact bx_row w9 _ _)
        have o6 := Lib.hid (owns_belowL z1.out kb2)
        have u6 := Lib.hid (u9.out.trans (kb2.mono u9.out.size))
        have hm1 := Lib.hid (j6.out.r3.cell (i := 0) (by omega))
        clear kb2
        go_wp2_with fail
        go_roundw
        case rel =>
          have hlo := hgl.out; have hgw := gw.out
          refine ⟨K + 1 + 1, w9.heap.size, by omega, by omega, rfl, j6, Lib.hid ?_, Lib.hid (fun q e => by have e2 : g9 = q := by { injection e }; have := g9l.out; omega), Lib.hid (by omega), u6⟩
          rw [Nat.add_sub_cancel, hnx.out]
          exact o6.out
        case measure =>
          have q1 := hm0.out; have q2 := hm1.out; have hkq := hkk'.out
          simp only [q1, q2, Option.getD_some, intOf]
          omega
    · have hke : K + 1 = n := by omega
      have hfin := Lib.hid (show justL ts ss vs = J by unfold justL; rw [hl.out, ← hke, Nat.add_sub_cancel, hJ'.out])
      obtain ⟨A1, cJ, e1, own1⟩ := OwnAt.of_owns ho.out
      have own1' := Lib.hid own1
      have hkI : ¬ ((K + 1 : Nat) : Int) < (n : Int) := by omega
      subst e1
      clear own1 hke
      go_wp2_with fail
      go_ret
      exact ⟨A1, _, cJ, rfl, by rw [hfin.out]; exact own1'.out.fewer (by omega), hbel.out⟩

set_option maxRecDepth 100000 in
set_option maxHeartbeats 800000 in
theorem implJust_any (A : Option Addr) (n c : Nat) (ts : List Blk) (A' : Option Addr) (n' c' : Nat) (ss : List Int) (V : Option Addr) (m d : Nat) (vs : List Vt) (w : World) (h : BlksAt w w.heap.size A n ts) (h' : IntsAt w w.heap.size A' n' ss) (hv : VotesAt w w.heap.size V m vs) (hn : n ≤ 1048576) (hn' : n' ≤ 1048576) (hm : m ≤ 1048576) :
    Calls Try.prog 33 #[.slice A n c, .slice A' n' c', .slice V m d] w (RetOwn w (linksOk ts ss vs) (justR ts ss vs)) := by
  have hgl := Lib.hid (implGoodLinks_any A n c ts A' n' c' ss V m d vs w h h' hv hn hn' hm)
  have hh := Lib.hid h; have hh' := Lib.hid h'; have hvv := Lib.hid hv
  clear h h' hv
  cases g : linksOk ts ss vs
  · have hr := Lib.hid (show justR ts ss vs = [] by unfold justR; rw [g]; rfl)
    rw [g] at hgl
    rw [hr.out]
    go_enter Try.func33, Try.ntmps33
    go_wp2_with (go_at_call 20; refine hgl.out.mono ?_; rintro e w1 ⟨rfl, b1⟩; have u1 := Lib.hid b1; clear b1)
    go_ret2
    exact ⟨none, 0, 0, rfl, own_nil _ _, u1.out⟩
  · have hr := Lib.hid (show justR ts ss vs = justL ts ss vs by unfold justR; rw [g, if_pos rfl])
    have hok := Lib.hid g
    rw [g] at hgl
    rw [hr.out]
    clear g
    go_enter Try.func33, Try.ntmps33
    go_wp2_with (first
      | (go_at_call 20; refine hgl.out.mono ?_; rintro e w1 ⟨rfl, b1⟩; have u1 := Lib.hid b1; clear b1)
      | (go_at_call 95; refine (justIn_any A n c ts A' n' c' ss V m d vs _ hok.out (hh.out.up u1.out) (hh'.out.up' u1.out) (hvv.out.up u1.out)).mono ?_; rintro e w2 ⟨A2, n2, c2, rfl, o2, b2⟩; have o2' := Lib.hid (o2.fewer u1.out.size); have u2 := Lib.hid (u1.out.trans (b2.mono u1.out.size)); clear o2 b2))
    go_ret2
    exact ⟨A2, n2, c2, rfl, o2'.out, u2.out⟩
end Go.Proofs.Ythiegfbdmmpabaa
