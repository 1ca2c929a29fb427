/- What is proved here: what the program's and the model's SafeBlocks return. No conditions but lengths. -/
import Derived.Test.YtgdgajgfehjjdaaForSpec
import Derived.Test.YtgdgajgfehjjdaaWalksF
namespace Go.Proofs.Ytgdgajgfehjjdaa
open Go.RowKit

def safeP (ts : List Blk) (ss : List Int) (l : List Vt) (b : Nat) : Bool := decide (sumL ss < 2 * wtL ss (forL ts l b))
/-- The first k blocks for which more than half of the stake stands. -/
def safeK (ts : List Blk) (ss : List Int) (l : List Vt) (k : Nat) : List Int := ((List.range k).filter (safeP ts ss l)).map fun (j : Nat) => (j : Int)
theorem safeK_step (ts : List Blk) (ss : List Int) (l : List Vt) (k : Nat) : safeK ts ss l (k + 1) = if safeP ts ss l k = true then safeK ts ss l k ++ [(k : Int)] else safeK ts ss l k := by
  unfold safeK
  rw [List.range_succ, List.filter_append]
  split
  · next e => simp [e]
  · next e => simp [e]
theorem safeK_len (ts : List Blk) (ss : List Int) (l : List Vt) (k : Nat) : (safeK ts ss l k).length ≤ k := by
  unfold safeK
  rw [List.length_map]
  exact Nat.le_trans (List.length_filter_le _ _) (by simp)
def safeR (ts : List Blk) (ss : List Int) (vs : List Vt) : List Int := if poolOk ts ss vs = true then safeK ts ss (latList vs) ts.length else []
theorem safeR_len (ts : List Blk) (ss : List Int) (vs : List Vt) : (safeR ts ss vs).length ≤ 100 := by
  unfold safeR
  split
  · next h => have := (poolOk_iff.1 h).1.1.1.few; have := safeK_len ts ss (latList vs) ts.length; omega
  · exact Nat.zero_le _
theorem stake_bd {ss : List Int} (h : goodB ss = true) : 0 ≤ sumL ss ∧ sumL ss ≤ 10000 := by
  have h1 := sumL_all (bds_of_good h)
  have h2 := goodB_len h
  omega
theorem wt_bd {ts : List Blk} {ss : List Int} {vs : List Vt} (h : poolOk ts ss vs = true) (b : Nat) : 0 ≤ wtL ss (forL ts (latList vs) b) ∧ wtL ss (forL ts (latList vs) b) ≤ 60000 := by
  have h0 := forL_of h b
  obtain ⟨h1, h2, _⟩ := of_parts rfl h0
  have h3 := wtL_bd h1 h2
  have h4 := lat_60 h
  have h5 : (forL ts (latList vs) b).length ≤ 60 := by
    unfold forL; rw [List.length_map]
    exact Nat.le_trans (List.length_filter_le _ _) h4
  omega
theorem forL_60 {ts : List Blk} {ss : List Int} {vs : List Vt} (h : poolOk ts ss vs = true) (b : Nat) : (forL ts (latList vs) b).length ≤ 60 := by
  have h4 := lat_60 h
  unfold forL; rw [List.length_map]
  exact Nat.le_trans (List.length_filter_le _ _) h4

set_option maxRecDepth 100000 in
set_option maxHeartbeats 1600000 in
theorem implSafe_any (A : Option Addr) (n c : Nat) (ts : List Blk) (A' : Option Addr) (n' c' : Nat) (ss : List Int) (V : Option Addr) (m d : Nat) (vs : List Vt) (w : World) (h : BlksAt w w.heap.size A n ts) (h' : IntsAt w w.heap.size A' n' ss) (hv : VotesAt w w.heap.size V m vs) (hn : n ≤ 1048576) (hn' : n' ≤ 1048576) (hm : m ≤ 1048576) :
    Calls Try.prog 61 #[.slice A n c, .slice A' n' c', .agg #[.slice V m d]] w (RetOwn w (poolOk ts ss vs) (safeR ts ss vs)) := by
  have hl := Lib.hid h.1
  have hh := Lib.hid h; have hh' := Lib.hid h'; have hvv := Lib.hid hv; clear h h' hv
  have bx0 := Lib.hid (Bx.start w (.slice V m d) 36)
  have hc0 := bx0.out.cell
  cases hg : poolOk ts ss vs
  · have hr := Lib.hid (show safeR ts ss vs = [] by unfold safeR; rw [if_neg (by rw [hg]; decide)])
    go_enter Try.func61, Try.ntmps61
    go_wp2_with (go_at_call 48; refine (goodPool_any A n c ts A' n' c' ss V m d vs _ (hh.out.up bx0.out.below) (hh'.out.up' bx0.out.below) (hvv.out.up bx0.out.below) hn hn' hm).mono ?_; rintro e w1 ⟨rfl, b1⟩; rw [hg]; have bx1 := Lib.hid (bx0.out.step b1); clear b1)
    go_ret2
    exact ⟨none, 0, 0, rfl, by rw [hr.out]; exact own_nil _ _, bx1.out.below⟩
  · have hr := Lib.hid (show safeR ts ss vs = safeK ts ss (latList vs) n by unfold safeR; rw [if_pos hg, hl.out])
    have hfew : n ≤ 24 := by rw [← hl.out]; exact (poolOk_iff.1 hg).1.1.1.few
    have hgs := Lib.hid (poolOk_iff.1 hg).1.1.2
    have hsb := stake_bd hgs.out
    have hbds := Lib.hid (bds_of_good hgs.out)
    have hfor := Lib.hid (fun (k : Nat) (hk : k < n) => (show forOK ts ss vs (k : Int) = true ∧ forR ts ss vs (k : Int) = forL ts (latList vs) k by
      have h1 : forOK ts ss vs (k : Int) = true := forOK_iff.2 ⟨hg, k, rfl, by rw [hl.out]; exact hk⟩
      exact ⟨h1, by unfold forR; rw [if_pos h1, Int.toNat_natCast]⟩))
    have hof := Lib.hid (fun k => forL_of hg k)
    have hwb := Lib.hid (fun k => wt_bd hg k)
    have h60 := Lib.hid (fun k => forL_60 hg k)
    obtain ⟨i0, hi, hz0, hz1, hz2⟩ := put_parts put_info3
    generalize latList vs = l at hr hfor hof hwb h60
    go_enter Try.func61, Try.ntmps61
    go_wp2_with (go_at_call 48; refine (goodPool_any A n c ts A' n' c' ss V m d vs _ (hh.out.up bx0.out.below) (hh'.out.up' bx0.out.below) (hvv.out.up bx0.out.below) hn hn' hm).mono ?_; rintro e w1 ⟨rfl, b1⟩; rw [hg]; have bx1 := Lib.hid (bx0.out.step b1); clear b1)
    clear hc0
    go_loopw [8, 9, 10, 11, 12, 13, 21] (fun o _ _ _ _ _ i wr => ∃ k : Nat, k ≤ n ∧ i = .int .i64 k ∧ Hid (wr.ownsRow (w.heap.size + 1) 3 1 o (safeK ts ss l k).length ((safeK ts ss l k).map (Value.int .i64))) ∧ Hid (Bx w (.slice V m d) 36 wr)) (fun _ _ _ _ _ _ i _ => n - (intOf i).toNat)
    case atStart => exact ⟨0, Nat.zero_le _, rfl, Lib.hid (World.ownsRow_nil _ _ _ _), bx1⟩
    case round =>
      obtain ⟨k, hk, rfl, ho, hbx⟩ := hrel
      have hcx := hbx.out.cell
      have hsl := safeK_len ts ss l k
      by_cases hlt : k < n
      · obtain ⟨f1, f2⟩ := hfor.out k hlt
        have hkk := Lib.hid (fun W (hb : BlksAt W W.heap.size A n ts) (hi : IntsAt W W.heap.size A' n' ss) (hv : VotesAt W W.heap.size V m vs) => implFor_any A n c ts A' n' c' ss V m d vs (k : Int) W hb hi hv hn hn' hm)
        rw [f1, f2] at hkk
        have hwo := Lib.hid (show wOf ss (forL ts l k) = wtL ss (forL ts l k) by unfold wOf; rw [if_pos (hof.out k)])
        have hof' := Lib.hid (hof.out k)
        have hwbk := hwb.out k
        have hl6 := Lib.hid (h60.out k)
        obtain ⟨T, hT⟩ : ∃ T, sumL ss = T := ⟨_, rfl⟩
        obtain ⟨X, hX⟩ : ∃ X, wtL ss (forL ts l k) = X := ⟨_, rfl⟩
        have hT' := Lib.hid hT
        have hX' := Lib.hid hX
        have hst := Lib.hid (show safeP ts ss l k = decide (T < 2 * X) by unfold safeP; rw [hT, hX])
        rw [hX] at hwbk
        rw [hT] at hsb
        clear f1 f2 hT hX
        by_cases hgt : T < 2 * X
        · have hnx := Lib.hid (show safeK ts ss l (k + 1) = safeK ts ss l k ++ [(k : Int)] by rw [safeK_step, hst.out, decide_eq_true hgt, if_pos rfl])
          go_wp2_with (first
            | (go_at_call 34; refine (hkk.out _ (hh.out.up hbx.out.below) (hh'.out.up' hbx.out.below) (hvv.out.up hbx.out.below)).mono ?_; rintro e w2 ⟨A2, n2, c2, rfl, o2, b2⟩; have o2' := Lib.hid o2; have bx2 := Lib.hid (hbx.out.step b2); have ow2 := Lib.hid (owns_belowV ho.out b2); clear o2 b2)
            | (go_at_call 109; refine (implWeightOf_any _ _ n' n2 _ _ _ ss (forL ts l k) _ (hh'.out.up' bx2.out.below) o2'.out.ints (by have := o2'.out.len; have := hl6.out; omega) hn').mono ?_; rw [hwo.out, hX'.out, hof'.out]; rintro e w3 ⟨rfl, rfl⟩)
            | (go_at_call 110; refine (implSum_any _ n' _ _ ss _ (hh'.out.up' bx2.out.below) hn' hbds.out).mono ?_; rw [hT'.out]; rintro e w3 ⟨rfl, rfl⟩)
            | (at_builtin; refine appendV _ rfl _ _ 23 rfl (w.heap.size + 1) i0 Try.underlying23 hi hz0 hz1 hz2 _ (safeK ts ss l k) rfl (ow2.out.alloc _) w2.heap.size 0 1 (k : Int) rfl ((bx_row w2 (.int .i64 (k : Int)) 3).cell (i := 0) (by omega)) (by omega) (by have := bx2.out.size; simp; omega) ?_; intro g c9 w9 r1 r2 r9; have z1 := Lib.hid r1; have z2 := Lib.hid r2; clear r1 r2 r9))
          have s2 := bx2.out.size
          have bx9 := Lib.hid (show Bx w (.slice V m d) 36 w9 from ⟨(bx2.out.up.alloc s2 (.cells #[.int .i64 (k : Int)] 3)).grown z2.out (by simp; omega) (fun j e => ((ow2.out.alloc (.cells #[.int .i64 (k : Int)] 3)).lt j e).1)⟩)
          go_roundw
          case rel => exact ⟨k + 1, by omega, by go_num, Lib.hid (by rw [hnx.out]; simpa using z1.out), bx9⟩
          case measure => simp [intOf]; omega
        · have hnx := Lib.hid (show safeK ts ss l (k + 1) = safeK ts ss l k by rw [safeK_step, hst.out, decide_eq_false hgt]; rfl)
          go_wp2_with (first
            | (go_at_call 34; refine (hkk.out _ (hh.out.up hbx.out.below) (hh'.out.up' hbx.out.below) (hvv.out.up hbx.out.below)).mono ?_; rintro e w2 ⟨A2, n2, c2, rfl, o2, b2⟩; have o2' := Lib.hid o2; have bx2 := Lib.hid (hbx.out.step b2); have ow2 := Lib.hid (owns_belowV ho.out b2); clear o2 b2)
            | (go_at_call 109; refine (implWeightOf_any _ _ n' n2 _ _ _ ss (forL ts l k) _ (hh'.out.up' bx2.out.below) o2'.out.ints (by have := o2'.out.len; have := hl6.out; omega) hn').mono ?_; rw [hwo.out, hX'.out, hof'.out]; rintro e w3 ⟨rfl, rfl⟩)
            | (go_at_call 110; refine (implSum_any _ n' _ _ ss _ (hh'.out.up' bx2.out.below) hn' hbds.out).mono ?_; rw [hT'.out]; rintro e w3 ⟨rfl, rfl⟩))
          go_roundw
          case rel => exact ⟨k + 1, by omega, by go_num, Lib.hid (by rw [hnx.out]; exact ow2.out), bx2⟩
          case measure => simp [intOf]; omega
      · have hkn : k = n := by omega
        subst hkn
        go_wp2_with fail
        go_ret2
        obtain ⟨A6, c6, e6, o6⟩ := OwnAt.of_owns ho.out
        exact ⟨A6, _, c6, by rw [e6]; rfl, by rw [hr.out]; exact o6.fewer (Nat.le_succ _), hbx.out.below⟩

set_option maxRecDepth 100000 in
set_option maxHeartbeats 1600000 in
theorem specSafe_any (A : Option Addr) (n c : Nat) (ts : List Blk) (A' : Option Addr) (n' c' : Nat) (ss : List Int) (V : Option Addr) (m d : Nat) (vs : List Vt) (w : World) (h : BlksAt w w.heap.size A n ts) (h' : IntsAt w w.heap.size A' n' ss) (hv : VotesAt w w.heap.size V m vs) (hn : n ≤ 1048576) (hn' : n' ≤ 1048576) (hm : m ≤ 1048576) :
    Calls Try.prog 60 #[.slice A n c, .slice A' n' c', .agg #[.slice V m d]] w (RetOwn w (poolOk ts ss vs) (safeR ts ss vs)) := by
  have hl := Lib.hid h.1; have hl' := Lib.hid h'.1; have hlv := Lib.hid hv.1
  have hh := Lib.hid h; have hh' := Lib.hid h'; have hvv := Lib.hid hv; clear h h' hv
  have bx0 := Lib.hid (Bx.start w (.slice V m d) 36)
  have hc0 := bx0.out.cell
  cases hg : poolOk ts ss vs
  · have hr := Lib.hid (show safeR ts ss vs = [] by unfold safeR; rw [if_neg (by rw [hg]; decide)])
    go_enter Try.func60, Try.ntmps60
    go_wp2_with (go_at_call 75; refine (specGoodPool_any A n c ts A' n' c' ss V m d vs _ (hh.out.up bx0.out.below) (hh'.out.up' bx0.out.below) (hvv.out.up bx0.out.below) hn hn' hm).mono ?_; rintro e w1 ⟨rfl, b1⟩; rw [hg]; have bx1 := Lib.hid (bx0.out.step b1); clear b1)
    go_ret2
    exact ⟨none, 0, 0, rfl, by rw [hr.out]; exact own_nil _ _, bx1.out.below⟩
  · have hr := Lib.hid (show safeR ts ss vs = safeK ts ss (latList vs) n by unfold safeR; rw [if_pos hg, hl.out])
    have hll := Lib.hid (show latL vs (putsL vs m) m = latList vs by unfold latList; rw [hlv.out])
    have ht := Lib.hid (poolOk_iff.1 hg).1.1.1
    have hfew : n ≤ 24 := by rw [← hl.out]; exact (poolOk_iff.1 hg).1.1.1.few
    have hm60 : m ≤ 60 := by rw [← hlv.out]; exact (poolOk_iff.1 hg).1.2
    have hgs := Lib.hid (poolOk_iff.1 hg).1.1.2
    have hsb := stake_bd hgs.out
    have hbds := Lib.hid (bds_of_good hgs.out)
    have hvo := Lib.hid (lat_of hg)
    have hlen := Lib.hid (lat_60 hg)
    have hup := Lib.hid (lat_up hg)
    have hvt := Lib.hid (fun k => (show Vot n' (forL ts (latList vs) k) by have := (of_parts rfl (forL_of hg k)).2.1; rw [hl'.out] at this; exact this))
    have hwb := Lib.hid (fun k => wt_bd hg k)
    have h60 := Lib.hid (fun k => forL_60 hg k)
    obtain ⟨i0, hi, hz0, hz1, hz2⟩ := put_parts put_info3
    generalize latList vs = l at hr hll hvo hlen hup hvt hwb h60
    go_enter Try.func60, Try.ntmps60
    go_wp2_with (first
      | (go_at_call 75; refine (specGoodPool_any A n c ts A' n' c' ss V m d vs _ (hh.out.up bx0.out.below) (hh'.out.up' bx0.out.below) (hvv.out.up bx0.out.below) hn hn' hm).mono ?_; rintro e w1 ⟨rfl, b1⟩; rw [hg]; have bx1 := Lib.hid (bx0.out.step b1); have hc1 := bx1.out.cell; clear b1)
      | (go_at_call 76; refine (l6Latest_any V m d vs _ (hvv.out.up bx1.out.below) hm60).mono ?_; rw [hll.out]; rintro e w2 ⟨A2, n2, c2, rfl, o2, b2⟩; have o2' := Lib.hid o2.votes; have bx2 := Lib.hid (bx1.out.step b2); clear o2 b2))
    clear hc0 hc1
    go_loopw [9, 10, 21] (fun o _ i wr => ∃ k : Nat, k ≤ n ∧ i = .int .i64 k ∧ Hid (wr.ownsRow w2.heap.size 3 1 o (safeK ts ss l k).length ((safeK ts ss l k).map (Value.int .i64))) ∧ Hid (Below w2.heap.size w2 wr)) (fun _ _ i _ => n - (intOf i).toNat)
    case atStart => exact ⟨0, Nat.zero_le _, rfl, Lib.hid (World.ownsRow_nil _ _ _ _), Lib.hid (Below.refl _ _)⟩
    case round =>
      obtain ⟨k, hk, rfl, ho, hbel⟩ := hrel
      have hsl := safeK_len ts ss l k
      by_cases hlt : k < n
      · have hkk := Lib.hid (fun W (hb : BlksAt W W.heap.size A n ts) (hv : VotesAt W W.heap.size A2 n2 l) => l6For_any A n c ts A2 n2 c2 l k W hb hv hn ht.out hvo.out hlen.out hup.out (by rw [hl.out]; exact hlt))
        have hwbk := hwb.out k
        have hl6 := Lib.hid (h60.out k)
        have hvk := Lib.hid (hvt.out k)
        have hb0 := Lib.hid (bx2.out.below.trans (hbel.out.mono bx2.out.below.size))
        have hv0 := Lib.hid (o2'.out.up hbel.out)
        obtain ⟨T, hT⟩ : ∃ T, sumL ss = T := ⟨_, rfl⟩
        obtain ⟨X, hX⟩ : ∃ X, wtL ss (forL ts l k) = X := ⟨_, rfl⟩
        have hT' := Lib.hid hT
        have hX' := Lib.hid hX
        have hst := Lib.hid (show safeP ts ss l k = decide (T < 2 * X) by unfold safeP; rw [hT, hX])
        rw [hX] at hwbk
        rw [hT] at hsb
        clear hT hX
        by_cases hgt : T < 2 * X
        · have hnx := Lib.hid (show safeK ts ss l (k + 1) = safeK ts ss l k ++ [(k : Int)] by rw [safeK_step, hst.out, decide_eq_true hgt, if_pos rfl])
          go_wp2_with (first
            | (go_at_call 83; refine (hkk.out _ (hh.out.up hb0.out) hv0.out).mono ?_; rintro e w3 ⟨A3, n3, c3, rfl, o3, b3⟩; have o3' := Lib.hid o3; have u3 := Lib.hid (hbel.out.trans (b3.mono hbel.out.size)); have ow3 := Lib.hid (owns_belowV ho.out b3); have hb3 := Lib.hid (hb0.out.trans (b3.mono hb0.out.size)); clear o3 b3)
            | (go_at_call 107; refine (specWeight_any _ _ n' n3 _ _ _ ss (forL ts l k) _ (hh'.out.up' hb3.out) o3'.out.ints (by have := o3'.out.len; have := hl6.out; omega) hn' hbds.out hvk.out).mono ?_; rw [hX'.out]; rintro e w4 ⟨rfl, rfl⟩)
            | (go_at_call 108; refine (specSum_any _ n' _ _ ss _ (hh'.out.up' hb3.out) hn' hbds.out).mono ?_; rw [hT'.out]; rintro e w4 ⟨rfl, rfl⟩)
            | (at_builtin; refine appendV _ rfl _ _ 23 rfl w2.heap.size i0 Try.underlying23 hi hz0 hz1 hz2 _ (safeK ts ss l k) rfl (ow3.out.alloc _) w3.heap.size 0 1 (k : Int) rfl ((bx_row w3 (.int .i64 (k : Int)) 3).cell (i := 0) (by omega)) (by omega) (by have := u3.out.size; simp; omega) ?_; intro g c9 w9 r1 r2 r9; have z1 := Lib.hid r1; have z2 := Lib.hid r2; clear r1 r2 r9))
          have s3 := u3.out.size
          have u9 := Lib.hid (show Below w2.heap.size w2 w9 from (u3.out.alloc s3 (.cells #[.int .i64 (k : Int)] 3)).grown z2.out (by simp; omega) (fun j e => ((ow3.out.alloc (.cells #[.int .i64 (k : Int)] 3)).lt j e).1))
          go_roundw
          case rel => exact ⟨k + 1, by omega, by go_num, Lib.hid (by rw [hnx.out]; simpa using z1.out), u9⟩
          case measure => simp [intOf]; omega
        · have hnx := Lib.hid (show safeK ts ss l (k + 1) = safeK ts ss l k by rw [safeK_step, hst.out, decide_eq_false hgt]; rfl)
          go_wp2_with (first
            | (go_at_call 83; refine (hkk.out _ (hh.out.up hb0.out) hv0.out).mono ?_; rintro e w3 ⟨A3, n3, c3, rfl, o3, b3⟩; have o3' := Lib.hid o3; have u3 := Lib.hid (hbel.out.trans (b3.mono hbel.out.size)); have ow3 := Lib.hid (owns_belowV ho.out b3); have hb3 := Lib.hid (hb0.out.trans (b3.mono hb0.out.size)); clear o3 b3)
            | (go_at_call 107; refine (specWeight_any _ _ n' n3 _ _ _ ss (forL ts l k) _ (hh'.out.up' hb3.out) o3'.out.ints (by have := o3'.out.len; have := hl6.out; omega) hn' hbds.out hvk.out).mono ?_; rw [hX'.out]; rintro e w4 ⟨rfl, rfl⟩)
            | (go_at_call 108; refine (specSum_any _ n' _ _ ss _ (hh'.out.up' hb3.out) hn' hbds.out).mono ?_; rw [hT'.out]; rintro e w4 ⟨rfl, rfl⟩))
          go_roundw
          case rel => exact ⟨k + 1, by omega, by go_num, Lib.hid (by rw [hnx.out]; exact ow3.out), u3⟩
          case measure => simp [intOf]; omega
      · have hkn : k = n := by omega
        subst hkn
        have u9 := Lib.hid (bx2.out.below.trans (hbel.out.mono bx2.out.below.size))
        have hsz := bx2.out.below.size
        go_wp2_with fail
        go_ret2
        obtain ⟨A6, c6, e6, o6⟩ := OwnAt.of_owns ho.out
        exact ⟨A6, _, c6, by rw [e6]; rfl, by rw [hr.out]; exact o6.fewer hsz, u9.out⟩
end Go.Proofs.Ytgdgajgfehjjdaa
