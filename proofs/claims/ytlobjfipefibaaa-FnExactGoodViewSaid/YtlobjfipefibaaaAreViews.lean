/- What is proved here: what the program's areViews and GoodView return. No conditions but lengths. -/
import Derived.Test.YtlobjfipefibaaaViewImpl
import Derived.Test.YtlobjfipefibaaaViewBox
namespace Go.Proofs.Ytlobjfipefibaaa
open Go.RowKit Go.Maps Go.Sort Go.Shelf Go.Lib

abbrev Vw := List Vt × List Vt
def getW (ws : List Vw) (k : Nat) : Vw := ws[k]?.getD ([], [])
/-- The slice with the address A and n elements holds the views ws, in memory below B. -/
def ViewsAt (w : World) (B : Nat) (A : Option Addr) (n : Nat) (ws : List Vw) : Prop :=
  ws.length = n ∧ ∀ k, k < n → ∃ b off A1 n1 c1 A2 n2 c2, A = some ⟨b, off, none⟩ ∧ b < B ∧ w.cell? ⟨b, off + k * 2, none⟩ = some (.slice A1 n1 c1) ∧ w.cell? ⟨b, off + k * 2 + 1, none⟩ = some (.slice A2 n2 c2) ∧
    VotesAt w B A1 n1 (getW ws k).1 ∧ VotesAt w B A2 n2 (getW ws k).2 ∧ (n1 ≤ 1048576 ∧ n1 ≤ c1 ∧ (A1 = none → n1 = 0 ∧ c1 = 0)) ∧ n2 ≤ 1048576 ∧ n2 ≤ c2 ∧ (A2 = none → n2 = 0 ∧ c2 = 0)
section
variable {w w' : World} {B B' n : Nat} {A : Option Addr} {ws : List Vw}
theorem ViewsAt.below (h : ViewsAt w B A n ws) (hb : Below B w w') : ViewsAt w' B A n ws :=
  ⟨h.1, fun k hn => by
    obtain ⟨b, off, A1, n1, c1, A2, n2, c2, e, hb', h0, h1, h2, h3, h4⟩ := h.2 k hn
    exact ⟨b, off, A1, n1, c1, A2, n2, c2, e, hb', (hb.cell hb').trans h0, (hb.cell hb').trans h1, h2.below hb, h3.below hb, h4⟩⟩
theorem ViewsAt.more (h : ViewsAt w B A n ws) (hB : B ≤ B') : ViewsAt w B' A n ws :=
  ⟨h.1, fun k hn => by
    obtain ⟨b, off, A1, n1, c1, A2, n2, c2, e, hb', h0, h1, h2, h3, h4⟩ := h.2 k hn
    exact ⟨b, off, A1, n1, c1, A2, n2, c2, e, by omega, h0, h1, h2.more hB, h3.more hB, h4⟩⟩
theorem ViewsAt.up (h : ViewsAt w w.heap.size A n ws) (hb : Below w.heap.size w w') : ViewsAt w' w'.heap.size A n ws := (h.below hb).more hb.size
end
def vwAt (ts : List Blk) (ss : List Int) (ws : List Vw) (k : Nat) : Bool := viewOk ts ss (getW ws k).1 (getW ws k).2
def areV (ts : List Blk) (ss : List Int) (ws : List Vw) : Bool := (List.range ws.length).all (vwAt ts ss ws)
theorem areV_one (ts : List Blk) (ss : List Int) (s f : List Vt) : areV ts ss [(s, f)] = viewOk ts ss s f := by
  unfold areV vwAt getW; simp
/-- What the look-ups in a valid pool's set say. -/
theorem vD_pool {ts : List Blk} {ss : List Int} {vs : List Vt} {m n n' : Nat} (h : poolOk ts ss vs = true) (hl : ts.length = n) (hl' : ss.length = n') (hv : vs.length = m) (hn : n ≤ 1048576) (hn' : n' ≤ 1048576) :
    (∀ j, j < m → wfV (getV vs j)) ∧ ∀ x, wfV x → (vD vs m).atKey (kv x) (.lit (.bool false)) = .lit (.bool (decide (x ∈ vs))) := by
  have hw := (set_of_ok (votesOk_of_pool h) hl hl' hv hn hn').1
  refine ⟨hw, fun x hx => ?_⟩
  have hid := setV_id (poolOk_iff'.1 h).2.2
  have hall : allV [] vs m = vs := by rw [← hv]; exact hid
  have := vD_at hx m hw
  rw [hall] at this
  exact this

set_option maxRecDepth 100000 in
set_option maxHeartbeats 3200000 in
theorem areViews_any (A : Option Addr) (n c : Nat) (ts : List Blk) (A' : Option Addr) (n' c' : Nat) (ss : List Int) (Q : Option Addr) (q r : Nat) (ws : List Vw) (w : World) (h : BlksAt w w.heap.size A n ts) (h' : IntsAt w w.heap.size A' n' ss) (hv : ViewsAt w w.heap.size Q q ws) (hn : n ≤ 1048576) (hn' : n' ≤ 1048576) (hq : q ≤ 1048576) :
    Calls Try.prog 85 #[.slice A n c, .slice A' n' c', .slice Q q r] w (UpPost w (.bool (areV ts ss ws))) := by
  have hl := Lib.hid h.1; have hl' := Lib.hid h'.1; have hlv := Lib.hid hv.1
  have hh := Lib.hid h; have hh' := Lib.hid h'; have hvv := Lib.hid hv; clear h h' hv
  have hmm := @run_makeMap Try.prog
  have hm0 := Lib.hid (World.ownsMap_made w Try.prog 53 boE)
  have u0 := Lib.hid (bx_below w (.map #[] 0))
  have hs0 : w.heap.size < (w.alloc (.map #[] 0)).heap.size := by simp
  go_enter Try.func85, Try.ntmps85
  go_wp2_with fail
  clear hmm
  go_loopw [9, 13] (fun _ i wr => ∃ k : Nat, k ≤ q ∧ i = .int .i64 k ∧ (∃ N D, Hid (wr.ownsMap Try.prog 53 boE w.heap.size N D)) ∧ Hid (Below w.heap.size w wr) ∧ w.heap.size < wr.heap.size ∧ Hid (∀ j, j < k → vwAt ts ss ws j = true)) (fun _ i _ => q - (intOf i).toNat)
  case atStart => exact ⟨0, Nat.zero_le _, rfl, ⟨_, _, hm0⟩, u0, hs0, Lib.hid (fun j hj => absurd hj (Nat.not_lt_zero _))⟩
  case round =>
    obtain ⟨k, hk, rfl, ⟨N, D, hown⟩, hbel, hsz, hall⟩ := hrel
    by_cases hlt : k < q
    · obtain ⟨vb, vo, A1, n1, c1, A2, n2, c2, rfl, hvb, q0, q1, hv1, hv2, ⟨hn1, -, -⟩, hn2, -, -⟩ := hvv.out.2 k hlt
      have q0' := (hbel.out.cell (p := ⟨vb, vo + k * 2, none⟩) hvb).trans q0
      have q1' := (hbel.out.cell (p := ⟨vb, vo + k * 2 + 1, none⟩) hvb).trans q1
      obtain ⟨S, hS⟩ : ∃ S, (getW ws k).1 = S := ⟨_, rfl⟩
      obtain ⟨F, hF⟩ : ∃ F, (getW ws k).2 = F := ⟨_, rfl⟩
      rw [hS] at hv1; rw [hF] at hv2
      have hat := Lib.hid (show vwAt ts ss ws k = viewOk ts ss S F by unfold vwAt; rw [hS, hF])
      have hvs := Lib.hid hv1; have hvf := Lib.hid hv2
      have ls := Lib.hid hv1.1; have lf := Lib.hid hv2.1
      have r0 := bx_row2 wr (.slice A1 n1 c1) (.slice A2 n2 c2) 63
      have b0 := bx_below wr (.cells #[.slice A1 n1 c1, .slice A2 n2 c2] 63)
      have x := Lib.hid r0
      have u := Lib.hid (hbel.out.trans (b0.mono hbel.out.size))
      have om := Lib.hid (hown.out.alloc (.cells #[.slice A1 n1 c1, .slice A2 n2 c2] 63))
      have hx0 := row2_0 x.out; have hx1 := row2_1 x.out
      have hkI : (k : Int) < (q : Int) := by omega
      clear q0 q1 hv1 hv2 hS hF r0 b0 hown
      cases hg : poolOk ts ss S
      · have hr := Lib.hid (show areV ts ss ws = false from all_no (k := k) (by rw [hlv.out]; exact hlt) (by rw [hat.out]; unfold viewOk; rw [hg]; rfl))
        go_wp2_with (go_at_call 81; refine (goodPool_any A n c ts A' n' c' ss A1 n1 c1 S _ (hh.out.up u.out) (hh'.out.up' u.out) (hvs.out.up u.out) hn hn' hn1).mono ?_; rintro e w1 ⟨rfl, b1⟩; rw [hg]; replace u := Lib.hid (u.out.trans (b1.mono u.out.size)); clear b1)
        go_ret
        exact ⟨ret_bool hr.out.symm, u.out⟩
      · cases hg2 : poolOk ts ss F
        · have hr := Lib.hid (show areV ts ss ws = false from all_no (k := k) (by rw [hlv.out]; exact hlt) (by rw [hat.out]; unfold viewOk; rw [hg2]; simp))
          have tk0 : True := trivial
          go_wp2_with (first
            | (clear tk0; go_at_call 81; refine (goodPool_any A n c ts A' n' c' ss A1 n1 c1 S _ (hh.out.up u.out) (hh'.out.up' u.out) (hvs.out.up u.out) hn hn' hn1).mono ?_; rintro e w1 ⟨rfl, b1⟩; rw [hg]; replace u := Lib.hid (u.out.trans (b1.mono u.out.size)); replace x := Lib.hid (rowIs_below x.out b1 x.out.lt); clear b1 hx0 hx1; have hx0 := row2_0 x.out; have hx1 := row2_1 x.out; have tk1 : True := trivial)
            | (clear tk1; go_at_call 81; refine (goodPool_any A n c ts A' n' c' ss A2 n2 c2 F _ (hh.out.up u.out) (hh'.out.up' u.out) (hvf.out.up u.out) hn hn' hn2).mono ?_; rintro e w1 ⟨rfl, b1⟩; rw [hg2]; replace u := Lib.hid (u.out.trans (b1.mono u.out.size)); clear b1))
          go_ret
          exact ⟨ret_bool hr.out.symm, u.out⟩
        · obtain ⟨hwS, hDS⟩ := vD_pool hg hl.out hl'.out ls.out hn hn'
          obtain ⟨hwF, _⟩ := vD_pool hg2 hl.out hl'.out lf.out hn hn'
          have hwS' := Lib.hid hwS; have hDS' := Lib.hid hDS; have hwF' := Lib.hid hwF
          have hvw := Lib.hid (show viewOk ts ss S F = withinB F S by unfold viewOk; rw [hg, hg2, Bool.true_and, Bool.true_and])
          clear hwS hDS hwF
          cases hw : withinB F S
          · have hr := Lib.hid (show areV ts ss ws = false from all_no (k := k) (by rw [hlv.out]; exact hlt) (by rw [hat.out, hvw.out, hw]))
            have tk0 : True := trivial
            go_wp2_with (first
              | (clear tk0; go_at_call 81; refine (goodPool_any A n c ts A' n' c' ss A1 n1 c1 S _ (hh.out.up u.out) (hh'.out.up' u.out) (hvs.out.up u.out) hn hn' hn1).mono ?_; rintro e w1 ⟨rfl, b1⟩; rw [hg]; replace u := Lib.hid (u.out.trans (b1.mono u.out.size)); replace om := Lib.hid (om.out.kept (row := none) ⟨b1.os, b1.tape, b1.output, b1.size, fun k hk _ => b1.block k hk⟩ (by simp)); replace x := Lib.hid (rowIs_below x.out b1 x.out.lt); clear b1 hx0 hx1; have hx0 := row2_0 x.out; have hx1 := row2_1 x.out; have tk1 : True := trivial)
              | (clear tk1; go_at_call 81; refine (goodPool_any A n c ts A' n' c' ss A2 n2 c2 F _ (hh.out.up u.out) (hh'.out.up' u.out) (hvf.out.up u.out) hn hn' hn2).mono ?_; rintro e w2 ⟨rfl, b1⟩; rw [hg2]; replace u := Lib.hid (u.out.trans (b1.mono u.out.size)); replace om := Lib.hid (om.out.kept (row := none) ⟨b1.os, b1.tape, b1.output, b1.size, fun k hk _ => b1.block k hk⟩ (by simp)); replace x := Lib.hid (rowIs_below x.out b1 x.out.lt); clear b1 hx0 hx1; have hx0 := row2_0 x.out; have hx1 := row2_1 x.out; have tk2 : True := trivial)
              | (clear tk2; go_at_call 91; refine (refill_any w.heap.size N D A1 n1 c1 S _ om.out (hvs.out.up u.out) hn1 hwS'.out).mono ?_; rintro e w3 ⟨rfl, om3, g3⟩; replace x := Lib.hid (x.out.of_block (g3.block _ x.out.lt (fun e => by injection e with e; omega))); replace u := Lib.hid (u.out.grown g3 u.out.size (fun j e => by injection e with e; omega)); have om4 := Lib.hid om3; clear om om3 g3 hx0 hx1; have hx0 := row2_0 x.out; have hx1 := row2_1 x.out; have tk3 : True := trivial)
              | (clear tk3; go_at_call 92; refine (includes_any w.heap.size n1 (vD S n1) S A2 n2 c2 F _ om4.out hDS'.out (hvf.out.up u.out) hn2 hwF'.out).mono ?_; rw [hw]; rintro e w4 ⟨rfl, b4⟩; replace u := Lib.hid (u.out.trans (b4.mono u.out.size)); clear b4))
            go_ret
            exact ⟨ret_bool hr.out.symm, u.out⟩
          · have hnext := Lib.hid (show ∀ j, j < k + 1 → vwAt ts ss ws j = true from fun j hj => by
              by_cases e : j = k
              · subst e; rw [hat.out, hvw.out, hw]
              · exact hall.out j (by omega))
            have tk0 : True := trivial
            go_wp2_with (first
              | (clear tk0; go_at_call 81; refine (goodPool_any A n c ts A' n' c' ss A1 n1 c1 S _ (hh.out.up u.out) (hh'.out.up' u.out) (hvs.out.up u.out) hn hn' hn1).mono ?_; rintro e w1 ⟨rfl, b1⟩; rw [hg]; replace u := Lib.hid (u.out.trans (b1.mono u.out.size)); replace om := Lib.hid (om.out.kept (row := none) ⟨b1.os, b1.tape, b1.output, b1.size, fun k hk _ => b1.block k hk⟩ (by simp)); replace x := Lib.hid (rowIs_below x.out b1 x.out.lt); clear b1 hx0 hx1; have hx0 := row2_0 x.out; have hx1 := row2_1 x.out; have tk1 : True := trivial)
              | (clear tk1; go_at_call 81; refine (goodPool_any A n c ts A' n' c' ss A2 n2 c2 F _ (hh.out.up u.out) (hh'.out.up' u.out) (hvf.out.up u.out) hn hn' hn2).mono ?_; rintro e w2 ⟨rfl, b1⟩; rw [hg2]; replace u := Lib.hid (u.out.trans (b1.mono u.out.size)); replace om := Lib.hid (om.out.kept (row := none) ⟨b1.os, b1.tape, b1.output, b1.size, fun k hk _ => b1.block k hk⟩ (by simp)); replace x := Lib.hid (rowIs_below x.out b1 x.out.lt); clear b1 hx0 hx1; have hx0 := row2_0 x.out; have hx1 := row2_1 x.out; have tk2 : True := trivial)
              | (clear tk2; go_at_call 91; refine (refill_any w.heap.size N D A1 n1 c1 S _ om.out (hvs.out.up u.out) hn1 hwS'.out).mono ?_; rintro e w3 ⟨rfl, om3, g3⟩; replace x := Lib.hid (x.out.of_block (g3.block _ x.out.lt (fun e => by injection e with e; omega))); replace u := Lib.hid (u.out.grown g3 u.out.size (fun j e => by injection e with e; omega)); have om4 := Lib.hid om3; clear om om3 g3 hx0 hx1; have hx0 := row2_0 x.out; have hx1 := row2_1 x.out; have tk3 : True := trivial)
              | (clear tk3; go_at_call 92; refine (includes_any w.heap.size n1 (vD S n1) S A2 n2 c2 F _ om4.out hDS'.out (hvf.out.up u.out) hn2 hwF'.out).mono ?_; rw [hw]; rintro e w4 ⟨rfl, b4⟩; have om5 := Lib.hid (om4.out.kept (row := none) ⟨b4.os, b4.tape, b4.output, b4.size, fun k hk _ => b4.block k hk⟩ (by simp)); have lw := Nat.lt_of_lt_of_le x.out.lt b4.size; replace u := Lib.hid (u.out.trans (b4.mono u.out.size)); clear b4))
            go_roundw
            case rel => exact ⟨k + 1, by omega, by go_num, ⟨_, _, om5⟩, u, by omega, hnext⟩
            case measure => simp [intOf]; omega
    · have hr := Lib.hid (show areV ts ss ws = true from all_yes (fun j hj => hall.out j (by rw [hlv.out] at hj; omega)))
      go_wp2_with fail
      go_ret
      exact ⟨ret_bool hr.out.symm, hbel.out⟩

/-- One view, laid as a slice of one. -/
theorem one_view {w : World} {V : Option Addr} {n c : Nat} {U : Option Addr} {m d : Nat} {s f : List Vt} (h : VotesAt w w.heap.size V n s) (h' : VotesAt w w.heap.size U m f) (hn : n ≤ 1048576) (hm : m ≤ 1048576) (hc : n ≤ c) (hd : m ≤ d) (hnil : V = none → n = 0 ∧ c = 0) (hnil' : U = none → m = 0 ∧ d = 0) (t : TypeId) :
    ViewsAt (w.alloc (.cells #[.slice V n c, .slice U m d] t)) (w.alloc (.cells #[.slice V n c, .slice U m d] t)).heap.size (some ⟨w.heap.size, 0, none⟩) 1 [(s, f)] := by
  have r := bx_row2 w (.slice V n c) (.slice U m d) t
  have b := bx_below w (.cells #[.slice V n c, .slice U m d] t)
  refine ⟨rfl, fun k hk => ?_⟩
  obtain rfl : k = 0 := by omega
  exact ⟨w.heap.size, 0, V, n, c, U, m, d, rfl, r.lt, row2_0 r, row2_1 r, h.up b, h'.up b, ⟨hn, hc, hnil⟩, hm, hd, hnil'⟩
set_option maxRecDepth 100000 in
theorem goodView_any (A : Option Addr) (n c : Nat) (ts : List Blk) (A' : Option Addr) (n' c' : Nat) (ss : List Int) (V : Option Addr) (m d : Nat) (vs : List Vt) (U : Option Addr) (k e0 : Nat) (us : List Vt) (w : World) (h : BlksAt w w.heap.size A n ts) (h' : IntsAt w w.heap.size A' n' ss) (hv : VotesAt w w.heap.size V m vs) (hu : VotesAt w w.heap.size U k us) (hn : n ≤ 1048576) (hn' : n' ≤ 1048576) (hm : m ≤ 1048576) (hk : k ≤ 1048576) (hc : m ≤ d) (hd : k ≤ e0) (hnil : V = none → m = 0 ∧ d = 0) (hnil' : U = none → k = 0 ∧ e0 = 0) :
    Calls Try.prog 40 #[.slice A n c, .slice A' n' c', .agg #[.slice V m d, .slice U k e0]] w (UpPost w (.bool (viewOk ts ss vs us))) := by
  have b0 := bx_below w (.cells #[.slice V m d, .slice U k e0] 63)
  have r0 := bx_row2 w (.slice V m d) (.slice U k e0) 63
  have b1 := bx_below (w.alloc (.cells #[.slice V m d, .slice U k e0] 63)) (.cells #[.slice V m d, .slice U k e0] 63)
  have hone0 := one_view (hv.up b0) (hu.up b0) hm hk hc hd hnil hnil' 63
  rw [show (w.alloc (.cells #[.slice V m d, .slice U k e0] 63)).heap.size = w.heap.size + 1 by simp] at hone0
  have hone := Lib.hid hone0
  clear hone0
  have u := Lib.hid (b0.trans (b1.mono b0.size))
  have hh := Lib.hid (h.up u.out); have hh' := Lib.hid (h'.up' u.out)
  have hx0 := row2_0 r0; have hx1 := row2_1 r0
  have hr := Lib.hid (areV_one ts ss vs us)
  clear b0 r0 b1 h h' hv hu
  go_enter Try.func40, Try.ntmps40
  go_wp2_with (go_at_call 85; refine (areViews_any A n c ts A' n' c' ss (some ⟨w.heap.size + 1, 0, none⟩) 1 1 [(vs, us)] _ hh.out hh'.out hone.out hn hn' (by omega)).mono ?_; rw [hr.out]; rintro e w1 ⟨rfl, b1⟩; replace u := Lib.hid (u.out.trans (b1.mono u.out.size)); clear b1)
  go_ret
  exact ⟨rfl, u.out⟩
end Go.Proofs.Ytlobjfipefibaaa
