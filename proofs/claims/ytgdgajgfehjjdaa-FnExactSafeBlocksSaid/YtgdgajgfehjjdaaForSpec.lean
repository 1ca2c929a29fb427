/- What is proved here: what the program's and the model's VotersFor return. No conditions but lengths. -/
import Derived.Test.YtgdgajgfehjjdaaForFacts
import Derived.Test.YtgdgajgfehjjdaaLatestSpec
namespace Go.Proofs.Ytgdgajgfehjjdaa
open Go.RowKit

theorem ret_sl_bool {A : Option Addr} {n c : Nat} {b b' : Bool} (h : b = b') : Ending.returned (.tuple #[.slice A n c, .bool b]) = Ending.returned (.tuple #[.slice A n c, .bool b']) := by rw [h]
theorem ret_sl_len {A : Option Addr} {n n' c : Nat} (h : n = n') : Ending.returned (.tuple #[.slice A n c, .bool true]) = Ending.returned (.tuple #[.slice A n' c, .bool true]) := by rw [h]
theorem ok_yes {ts : List Blk} (ht : Tree ts) {k : Nat} (h : k < ts.length) : okK ts (k : Int) = true := okK_iff.2 ⟨ht, k, rfl, h⟩
theorem abv_yes {ts : List Blk} (ht : Tree ts) {a b : Nat} (ha : a < ts.length) (hb : b < ts.length) : abvR ts (a : Int) (b : Int) = abv ts a b ∧ abvOk ts (a : Int) (b : Int) = true := by
  have h1 := ok_yes ht ha
  have h2 := ok_yes ht hb
  have h3 : abvOk ts (a : Int) (b : Int) = true := by unfold abvOk; rw [h1, h2]; rfl
  refine ⟨?_, h3⟩
  unfold abvR; rw [h3, Int.toNat_natCast, Int.toNat_natCast]; rfl
theorem aboveX_any (A : Option Addr) (n c : Nat) (ts : List Blk) (a b : Nat) (w : World) (h : BlksAt w w.heap.size A n ts) (hn : n ≤ 1048576) (ht : Tree ts) (ha : a < ts.length) (hb : b < ts.length) {r : Bool} (hr : abv ts a b = r) :
    Calls Try.prog 85 #[.slice A n c, .int .i64 a, .int .i64 b] w (UpPost w (.tuple #[.bool r, .bool true])) := by
  have := implAbove_any A n c ts (a : Int) (b : Int) w h hn
  rw [(abv_yes ht ha hb).1, (abv_yes ht ha hb).2, hr] at this
  exact this

set_option maxRecDepth 100000 in
set_option maxHeartbeats 1600000 in
theorem implFor_any (A : Option Addr) (n c : Nat) (ts : List Blk) (A' : Option Addr) (n' c' : Nat) (ss : List Int) (V : Option Addr) (m d : Nat) (vs : List Vt) (b : Int) (w : World) (h : BlksAt w w.heap.size A n ts) (h' : IntsAt w w.heap.size A' n' ss) (hv : VotesAt w w.heap.size V m vs) (hn : n ≤ 1048576) (hn' : n' ≤ 1048576) (hm : m ≤ 1048576) :
    Calls Try.prog 34 #[.slice A n c, .slice A' n' c', .agg #[.slice V m d], .int .i64 b] w (RetOwn w (forOK ts ss vs b) (forR ts ss vs b)) := by
  have hl := Lib.hid h.1; have hl' := Lib.hid h'.1; have hlv := Lib.hid hv.1
  have hh := Lib.hid h; have hh' := Lib.hid h'; have hvv := Lib.hid hv; clear h h' hv
  have bx0 := Lib.hid (Bx.start w (.slice V m d) 36)
  have hc0 := bx0.out.cell
  cases hg : poolOk ts ss vs
  · have hfo := Lib.hid (show forOK ts ss vs b = false by unfold forOK; rw [hg]; rfl)
    have hr := Lib.hid (show forR ts ss vs b = [] by unfold forR; rw [if_neg (by rw [hfo.out]; decide)])
    go_enter Try.func34, Try.ntmps34
    go_wp2_with (go_at_call 20; refine (implLatest_any A n c ts A' n' c' ss V m d vs _ (hh.out.up bx0.out.below) (hh'.out.up' bx0.out.below) (hvv.out.up bx0.out.below) hn hn' hm).mono ?_; rw [hg]; rintro e w1 ⟨A1, n1, c1, rfl, o1, b1⟩; have bx1 := Lib.hid (bx0.out.step b1); clear o1 b1)
    go_ret2
    exact ⟨none, 0, 0, ret_sl_bool hfo.out.symm, by rw [hr.out]; exact own_nil _ _, bx1.out.below⟩
  · have ht := Lib.hid (poolOk_iff.1 hg).1.1.1
    have hlr := Lib.hid (show latR ts ss vs = latList vs by unfold latR; rw [hg, if_pos rfl])
    cases hk : okK ts b
    · have hfo := Lib.hid (show forOK ts ss vs b = false by
        cases hc : forOK ts ss vs b
        · rfl
        · obtain ⟨_, k, e, hk2⟩ := forOK_iff.1 hc
          rw [e, ok_yes ht.out hk2] at hk; cases hk)
      have hr := Lib.hid (show forR ts ss vs b = [] by unfold forR; rw [if_neg (by rw [hfo.out]; decide)])
      go_enter Try.func34, Try.ntmps34
      go_wp2_with (first
        | (go_at_call 20; refine (implLatest_any A n c ts A' n' c' ss V m d vs _ (hh.out.up bx0.out.below) (hh'.out.up' bx0.out.below) (hvv.out.up bx0.out.below) hn hn' hm).mono ?_; rw [hg]; rintro e w1 ⟨A1, n1, c1, rfl, o1, b1⟩; have bx1 := Lib.hid (bx0.out.step b1); clear o1 b1)
        | (go_at_call 84; refine (isBlock_ok _ _ _ ts _ _ (hh.out.up bx1.out.below) hn).mono ?_; rintro e w2 ⟨rfl, b2⟩; rw [hk]; have bx2 := Lib.hid (bx1.out.step b2); clear b2))
      go_ret2
      exact ⟨none, 0, 0, ret_sl_bool hfo.out.symm, by rw [hr.out]; exact own_nil _ _, bx2.out.below⟩
    · obtain ⟨_, q, rfl, hqn⟩ := okK_iff.1 hk
      have hfo := Lib.hid (show forOK ts ss vs (q : Int) = true from forOK_iff.2 ⟨hg, q, rfl, hqn⟩)
      have hr := Lib.hid (show forR ts ss vs (q : Int) = forL ts (latList vs) q by unfold forR; rw [if_pos hfo.out, Int.toNat_natCast])
      have hvo := Lib.hid (lat_of hg)
      have h60 := Lib.hid (lat_60 hg)
      obtain ⟨i0, hi, hz0, hz1, hz2⟩ := put_parts put_info3
      generalize latList vs = l at hlr hvo hr h60
      have hqn' := Lib.hid hqn
      clear hqn
      go_enter Try.func34, Try.ntmps34
      go_wp2_with (first
        | (go_at_call 20; refine (implLatest_any A n c ts A' n' c' ss V m d vs _ (hh.out.up bx0.out.below) (hh'.out.up' bx0.out.below) (hvv.out.up bx0.out.below) hn hn' hm).mono ?_; rw [hg, hlr.out]; rintro e w1 ⟨A1, n1, c1, rfl, o1, b1⟩; have bx1 := Lib.hid (bx0.out.step b1); have hl1 := Lib.hid o1.len; have hov := Lib.hid o1; clear o1 b1)
        | (go_at_call 84; refine (isBlock_ok _ _ _ ts _ _ (hh.out.up bx1.out.below) hn).mono ?_; rintro e w2 ⟨rfl, b2⟩; rw [hk]; have bx2 := Lib.hid (bx1.out.step b2); have hvl := Lib.hid ((hov.out.below b2).votes); clear b2 hov))
      have hn60 : n1 ≤ 60 := by rw [← hl1.out]; exact h60.out
      go_loopw [12, 14, 15, 16, 34] (fun o _ _ _ i wr => ∃ k : Nat, k ≤ n1 ∧ i = .int .i64 k ∧ Hid (wr.ownsRow w2.heap.size 3 1 o (forK ts l q k).length ((forK ts l q k).map (Value.int .i64))) ∧ Hid (Below w2.heap.size w2 wr)) (fun _ _ _ _ i _ => n1 - (intOf i).toNat)
      case atStart => exact ⟨0, Nat.zero_le _, rfl, Lib.hid (World.ownsRow_nil _ _ _ _), Lib.hid (Below.refl _ _)⟩
      case round =>
        obtain ⟨k, hkn, rfl, ho, hbel⟩ := hrel
        have hfl : (forK ts l q k).length ≤ n1 := by rw [← hl1.out]; exact forK_len ts l q k
        by_cases hlt : k < n1
        · obtain ⟨vb, vo, rfl, hvb, q0', q1', q2'⟩ := hvl.out.2 k hlt
          obtain ⟨⟨x, hx, hxm⟩, ⟨z, hzz, hzn⟩⟩ := hvo.out k (by rw [hl1.out]; exact hlt)
          have q0 := (hbel.out.cell (p := ⟨vb, vo + k * 3, none⟩) hvb).trans q0'
          have q1 := (hbel.out.cell (p := ⟨vb, vo + k * 3 + 1, none⟩) hvb).trans q1'
          have q2 := (hbel.out.cell (p := ⟨vb, vo + k * 3 + 2, none⟩) hvb).trans q2'
          rw [hx] at q0
          rw [hzz] at q2
          obtain ⟨y, hy⟩ : ∃ y, (getV l k).2.1 = y := ⟨_, rfl⟩
          rw [hy] at q1
          have hb1 := bx_below wr (.cells #[.int .i64 (x : Int), .int .i64 y, .int .i64 (z : Int)] 60)
          have r3 := three_cells wr (x : Int) y (z : Int) 60
          obtain ⟨W, hW⟩ : ∃ W, wr.alloc (.cells #[.int .i64 (x : Int), .int .i64 y, .int .i64 (z : Int)] 60) = W := ⟨_, rfl⟩
          rw [hW] at hb1 r3
          have e0 := r3.cell (i := 0) (by omega)
          have e2 := r3.cell (i := 2) (by omega)
          simp only [if_true, if_false, show (2 : Nat) ≠ 0 by decide, show (2 : Nat) ≠ 1 by decide] at e0 e2
          have hW' := Lib.hid hW
          have E0 := Lib.hid e0
          have vl := Lib.hid r3.lt
          have u1 := Lib.hid (hbel.out.trans (hb1.mono hbel.out.size))
          have o1 := Lib.hid (owns_belowV ho.out hb1)
          have hht := Lib.hid ((hh.out.up bx2.out.below).up u1.out)
          have hstep := Lib.hid (forK_step (ts := ts) (b := q) (l := l) (k := k) (by rw [hl1.out]; exact hlt))
          have hpz := Lib.hid (show forP ts q (getV l k) = abv ts q z by unfold forP; rw [hzz, Int.toNat_natCast])
          have hxx := Lib.hid hx
          have hzn' := Lib.hid hzn
          clear hW hb1 r3 q0' q1' q2' hx hzz hy e0 hzn
          cases hab : abv ts q z
          · have hnx := Lib.hid (show forK ts l q (k + 1) = forK ts l q k by rw [hstep.out, hpz.out, hab]; rfl)
            go_wp2_with fail
            rw [hW'.out]
            go_wp2_with (go_at_call 85; refine (aboveX_any _ n c ts q z _ hht.out hn ht.out hqn'.out hzn'.out hab).mono ?_; rintro e w3 ⟨rfl, b3⟩; have u3 := Lib.hid (u1.out.trans (b3.mono u1.out.size)); have o3 := Lib.hid (owns_belowV o1.out b3); clear b3)
            go_roundw
            case rel => exact ⟨k + 1, by omega, by go_num, Lib.hid (by rw [hnx.out]; exact o3.out), u3⟩
            case measure => simp [intOf]; omega
          · have hnx := Lib.hid (show forK ts l q (k + 1) = forK ts l q k ++ [(x : Int)] by rw [hstep.out, hpz.out, hab, if_pos rfl, hxx.out])
            go_wp2_with fail
            rw [hW'.out]
            go_wp2_with (first
              | (go_at_call 85; refine (aboveX_any _ n c ts q z _ hht.out hn ht.out hqn'.out hzn'.out hab).mono ?_; rintro e w3 ⟨rfl, b3⟩; have u3 := Lib.hid (u1.out.trans (b3.mono u1.out.size)); have o3 := Lib.hid (owns_belowV o1.out b3); have e3 := (b3.cell (p := ⟨wr.heap.size, 0, none⟩) vl.out).trans E0.out; have s3 := u3.out.size; clear b3)
              | (at_builtin; refine appendV _ rfl _ _ 23 rfl w2.heap.size i0 Try.underlying23 hi hz0 hz1 hz2 _ (forK ts l q k) rfl (o3.out.alloc _) w3.heap.size 0 1 (x : Int) rfl ((bx_row w3 (.int .i64 (x : Int)) 3).cell (i := 0) (by omega)) (by omega) (by simp; omega) ?_; intro g c9 w9 r1 r2 r9; have z1 := Lib.hid r1; have z2 := Lib.hid r2; clear r1 r2 r9))
            have u9 := Lib.hid (show Below w2.heap.size w2 w9 from (u3.out.alloc s3 (.cells #[.int .i64 (x : Int)] 3)).grown z2.out (by simp; omega) (fun j e => ((o3.out.alloc (.cells #[.int .i64 (x : Int)] 3)).lt j e).1))
            go_roundw
            case rel => exact ⟨k + 1, by omega, by go_num, Lib.hid (by rw [hnx.out]; simpa using z1.out), u9⟩
            case measure => simp [intOf]; omega
        · have hke := Lib.hid (show forK ts l q k = forL ts l q from forK_end (by rw [hl1.out]; omega))
          have u9 := Lib.hid (bx2.out.below.trans (hbel.out.mono bx2.out.below.size))
          have hsz := bx2.out.below.size
          go_wp2_with fail
          go_ret2
          obtain ⟨A6, c6, e6, o6⟩ := OwnAt.of_owns ho.out
          rw [hke.out] at e6 o6
          refine ⟨A6, _, c6, by rw [hfo.out, e6]; rfl, ?_, u9.out⟩
          rw [hr.out]; exact o6.fewer hsz

set_option maxRecDepth 100000 in
set_option maxHeartbeats 1600000 in
theorem l6For_any (A : Option Addr) (n c : Nat) (ts : List Blk) (V : Option Addr) (n1 d : Nat) (l : List Vt) (q : Nat) (w : World) (h : BlksAt w w.heap.size A n ts) (hv : VotesAt w w.heap.size V n1 l) (hn : n ≤ 1048576) (ht0 : Tree ts) {m' : Nat} (hvo0 : VotesOf ts.length m' l) (h600 : l.length ≤ 60) (hup0 : WhoUp l) (_hq : q < ts.length) :
    Calls Try.prog 83 #[.slice A n c, .slice V n1 d, .int .i64 q] w (RetSl w (forL ts l q)) := by
  have hl1 := Lib.hid hv.1
  have hh := Lib.hid h; have hvl := Lib.hid hv; have hvo := Lib.hid hvo0; have ht := Lib.hid ht0; have hup := Lib.hid hup0
  have hn60 : n1 ≤ 60 := by rw [← hl1.out]; exact h600
  clear h hv hvo0 ht0 hup0 h600
  go_enter Try.func83, Try.ntmps83
  go_wp2_with fail
  go_loopw [7, 9, 12] (fun o _ i wr => ∃ k : Nat, k ≤ n1 ∧ i = .int .i64 k ∧ Hid (wr.ownsRow w.heap.size 3 1 o (forK ts l q k).length ((forK ts l q k).map (Value.int .i64))) ∧ Hid (Below w.heap.size w wr)) (fun _ _ i _ => n1 - (intOf i).toNat)
  case atStart => exact ⟨0, Nat.zero_le _, rfl, Lib.hid (World.ownsRow_nil _ _ _ _), Lib.hid (Below.refl _ _)⟩
  case round =>
    obtain ⟨k, hkn, rfl, ho, hbel⟩ := hrel
    have hfl := Lib.hid (forK_len ts l q k)
    by_cases hlt : k < n1
    · obtain ⟨vb, vo, rfl, hvb, q0', q1', q2'⟩ := hvl.out.2 k hlt
      obtain ⟨⟨x, hx, hxm⟩, ⟨z, hzz, hzn⟩⟩ := hvo.out k (by rw [hl1.out]; exact hlt)
      have q0 := (hbel.out.cell (p := ⟨vb, vo + k * 3, none⟩) hvb).trans q0'
      have q1 := (hbel.out.cell (p := ⟨vb, vo + k * 3 + 1, none⟩) hvb).trans q1'
      have q2 := (hbel.out.cell (p := ⟨vb, vo + k * 3 + 2, none⟩) hvb).trans q2'
      rw [hx] at q0
      rw [hzz] at q2
      obtain ⟨y, hy⟩ : ∃ y, (getV l k).2.1 = y := ⟨_, rfl⟩
      rw [hy] at q1
      have hb1 := bx_below wr (.cells #[.int .i64 (x : Int), .int .i64 y, .int .i64 (z : Int)] 60)
      have r3 := three_cells wr (x : Int) y (z : Int) 60
      obtain ⟨W, hW⟩ : ∃ W, wr.alloc (.cells #[.int .i64 (x : Int), .int .i64 y, .int .i64 (z : Int)] 60) = W := ⟨_, rfl⟩
      rw [hW] at hb1 r3
      have e0 := r3.cell (i := 0) (by omega)
      have e2 := r3.cell (i := 2) (by omega)
      simp only [if_true, if_false, show (2 : Nat) ≠ 0 by decide, show (2 : Nat) ≠ 1 by decide] at e0 e2
      have hW' := Lib.hid hW
      have E0 := Lib.hid e0
      have vl := Lib.hid r3.lt
      have u1 := Lib.hid (hbel.out.trans (hb1.mono hbel.out.size))
      have o1 := Lib.hid (owns_belowV ho.out hb1)
      have hht := Lib.hid (hh.out.up u1.out)
      have hstep := Lib.hid (forK_step (ts := ts) (b := q) (l := l) (k := k) (by rw [hl1.out]; exact hlt))
      have hpz := Lib.hid (show forP ts q (getV l k) = abv ts q z by unfold forP; rw [hzz, Int.toNat_natCast])
      have hput := Lib.hid (forK_put (ts := ts) (b := q) hup.out (k := k) (by rw [hl1.out]; exact hlt))
      have hxx := Lib.hid hx
      have hzn' := Lib.hid hzn
      clear hW hb1 r3 q0' q1' q2' hx hzz hy e0 hzn
      cases hab : abv ts q z
      · have hnx := Lib.hid (show forK ts l q (k + 1) = forK ts l q k by rw [hstep.out, hpz.out, hab]; rfl)
        have hac := Lib.hid (fun W' (hb : BlksAt W' W'.heap.size A n ts) => l3Above_any A n c ts q z W' hb hn ht.out hzn'.out)
        rw [hab] at hac
        go_wp2_with fail
        rw [hW'.out]
        go_wp2_with (go_at_call 133; refine (hac.out _ hht.out).mono ?_; rintro e w3 ⟨rfl, b3⟩; have u3 := Lib.hid (u1.out.trans (b3.mono u1.out.size)); have o3 := Lib.hid (owns_belowV o1.out b3); clear b3)
        go_roundw
        case rel => exact ⟨k + 1, by omega, by go_num, Lib.hid (by rw [hnx.out]; exact o3.out), u3⟩
        case measure => simp [intOf]; omega
      · have hnx := Lib.hid (show forK ts l q (k + 1) = putL (forK ts l q k) (x : Int) by rw [← hxx.out, hput.out, hstep.out, hpz.out, hab, if_pos rfl])
        have hac := Lib.hid (fun W' (hb : BlksAt W' W'.heap.size A n ts) => l3Above_any A n c ts q z W' hb hn ht.out hzn'.out)
        rw [hab] at hac
        go_wp2_with fail
        rw [hW'.out]
        go_wp2_with (first
          | (go_at_call 133; refine (hac.out _ hht.out).mono ?_; rintro e w3 ⟨rfl, b3⟩; have u3 := Lib.hid (u1.out.trans (b3.mono u1.out.size)); have o3 := Lib.hid (owns_belowV o1.out b3); have e3 := (b3.cell (p := ⟨wr.heap.size, 0, none⟩) vl.out).trans E0.out; clear b3)
          | (go_at_call 134; refine (l1Put_any _ (forK ts l q k) (x : Int) w.heap.size _ o3.out (by have := hfl.out; have := hl1.out; omega) u3.out.size).mono ?_; rintro e w4 ⟨v4, rfl, r4, b4⟩; have z1 := Lib.hid r4; have u4 := Lib.hid (u3.out.trans (b4.mono u3.out.size)); clear r4 b4))
        go_roundw
        case rel => exact ⟨k + 1, by omega, by go_num, Lib.hid (by rw [hnx.out]; exact z1.out), u4⟩
        case measure => simp [intOf]; omega
    · have hke := Lib.hid (show forK ts l q k = forL ts l q from forK_end (by rw [hl1.out]; omega))
      go_wp2_with fail
      go_ret
      obtain ⟨A6, c6, e6, o6⟩ := OwnAt.of_owns ho.out
      rw [hke.out] at e6 o6
      exact ⟨A6, _, c6, by rw [e6]; rfl, o6, hbel.out⟩

set_option maxRecDepth 100000 in
set_option maxHeartbeats 1600000 in
theorem specFor_any (A : Option Addr) (n c : Nat) (ts : List Blk) (A' : Option Addr) (n' c' : Nat) (ss : List Int) (V : Option Addr) (m d : Nat) (vs : List Vt) (b : Int) (w : World) (h : BlksAt w w.heap.size A n ts) (h' : IntsAt w w.heap.size A' n' ss) (hv : VotesAt w w.heap.size V m vs) (hn : n ≤ 1048576) (hn' : n' ≤ 1048576) (hm : m ≤ 1048576) :
    Calls Try.prog 33 #[.slice A n c, .slice A' n' c', .agg #[.slice V m d], .int .i64 b] w (RetOwn w (forOK ts ss vs b) (forR ts ss vs b)) := by
  have hl := Lib.hid h.1; have hl' := Lib.hid h'.1; have hlv := Lib.hid hv.1
  have hh := Lib.hid h; have hh' := Lib.hid h'; have hvv := Lib.hid hv; clear h h' hv
  have bx0 := Lib.hid (Bx.start w (.slice V m d) 36)
  have hc0 := bx0.out.cell
  cases hg : poolOk ts ss vs
  · have hfo := Lib.hid (show forOK ts ss vs b = false by unfold forOK; rw [hg]; rfl)
    have hr := Lib.hid (show forR ts ss vs b = [] by unfold forR; rw [if_neg (by rw [hfo.out]; decide)])
    go_enter Try.func33, Try.ntmps33
    go_wp2_with (go_at_call 75; refine (specGoodPool_any A n c ts A' n' c' ss V m d vs _ (hh.out.up bx0.out.below) (hh'.out.up' bx0.out.below) (hvv.out.up bx0.out.below) hn hn' hm).mono ?_; rintro e w1 ⟨rfl, b1⟩; rw [hg]; have bx1 := Lib.hid (bx0.out.step b1); clear b1)
    go_ret2
    exact ⟨none, 0, 0, ret_sl_bool hfo.out.symm, by rw [hr.out]; exact own_nil _ _, bx1.out.below⟩
  · have ht := Lib.hid (poolOk_iff.1 hg).1.1.1
    by_cases h1 : b < 0
    · have hfo := Lib.hid (show forOK ts ss vs b = false by unfold forOK; rw [inB_low h1]; simp)
      have hr := Lib.hid (show forR ts ss vs b = [] by unfold forR; rw [if_neg (by rw [hfo.out]; decide)])
      go_enter Try.func33, Try.ntmps33
      go_wp2_with (go_at_call 75; refine (specGoodPool_any A n c ts A' n' c' ss V m d vs _ (hh.out.up bx0.out.below) (hh'.out.up' bx0.out.below) (hvv.out.up bx0.out.below) hn hn' hm).mono ?_; rintro e w1 ⟨rfl, b1⟩; rw [hg]; have bx1 := Lib.hid (bx0.out.step b1); clear b1)
      go_ret2
      exact ⟨none, 0, 0, ret_sl_bool hfo.out.symm, by rw [hr.out]; exact own_nil _ _, bx1.out.below⟩
    · by_cases h2 : (n : Int) ≤ b
      · have hfo := Lib.hid (show forOK ts ss vs b = false by unfold forOK; rw [inB_high (by rw [hl.out]; omega)]; simp)
        have hr := Lib.hid (show forR ts ss vs b = [] by unfold forR; rw [if_neg (by rw [hfo.out]; decide)])
        go_enter Try.func33, Try.ntmps33
        go_wp2_with (go_at_call 75; refine (specGoodPool_any A n c ts A' n' c' ss V m d vs _ (hh.out.up bx0.out.below) (hh'.out.up' bx0.out.below) (hvv.out.up bx0.out.below) hn hn' hm).mono ?_; rintro e w1 ⟨rfl, b1⟩; rw [hg]; have bx1 := Lib.hid (bx0.out.step b1); clear b1)
        go_ret2
        exact ⟨none, 0, 0, ret_sl_bool hfo.out.symm, by rw [hr.out]; exact own_nil _ _, bx1.out.below⟩
      · obtain ⟨q, rfl⟩ := Int.eq_ofNat_of_zero_le (show 0 ≤ b by omega)
        have hqn := Lib.hid (show q < ts.length by rw [hl.out]; omega)
        have hfo := Lib.hid (show forOK ts ss vs (q : Int) = true from forOK_iff.2 ⟨hg, q, rfl, hqn.out⟩)
        have hr := Lib.hid (show forR ts ss vs (q : Int) = forL ts (latList vs) q by unfold forR; rw [if_pos hfo.out, Int.toNat_natCast])
        have hvo := Lib.hid (lat_of hg)
        have h60 := Lib.hid (lat_60 hg)
        have hup := Lib.hid (lat_up hg)
        have hll := Lib.hid (show latL vs (putsL vs m) m = latList vs by unfold latList; rw [hlv.out])
        have hm60 : m ≤ 60 := by rw [← hlv.out]; exact (poolOk_iff.1 hg).1.2
        go_enter Try.func33, Try.ntmps33
        go_wp2_with (first
          | (go_at_call 75; refine (specGoodPool_any A n c ts A' n' c' ss V m d vs _ (hh.out.up bx0.out.below) (hh'.out.up' bx0.out.below) (hvv.out.up bx0.out.below) hn hn' hm).mono ?_; rintro e w1 ⟨rfl, b1⟩; rw [hg]; have bx1 := Lib.hid (bx0.out.step b1); have hc1 := bx1.out.cell; clear b1)
          | (go_at_call 76; refine (l6Latest_any V m d vs _ (hvv.out.up bx1.out.below) hm60).mono ?_; rw [hll.out]; rintro e w2 ⟨A2, n2, c2, rfl, o2, b2⟩; have o2' := Lib.hid o2.votes; have bx2 := Lib.hid (bx1.out.step b2); clear o2 b2)
          | (go_at_call 83; refine (l6For_any A n c ts A2 n2 c2 (latList vs) q _ (hh.out.up bx2.out.below) o2'.out hn ht.out hvo.out h60.out hup.out hqn.out).mono ?_; rintro e w3 ⟨A3, n3, c3, rfl, o3, b3⟩; have o3' := Lib.hid (o3.fewer bx2.out.below.size); have bx3 := Lib.hid (bx2.out.step b3); clear o3 b3))
        go_ret2
        exact ⟨A3, n3, c3, ret_sl_bool hfo.out.symm, by rw [hr.out]; exact o3'.out, bx3.out.below⟩
end Go.Proofs.Ytgdgajgfehjjdaa
