/- What is proved here: what the program's and the model's WeightWithin return. No conditions but lengths. -/
import Derived.Test.YtlobjfipefibaabTrimSpec
import Derived.Test.YtlobjfipefibaabWeighSpec
namespace Go.Proofs.Ytlobjfipefibaab
open Go.RowKit

theorem sum_setI (xs : List Int) : ∀ (k : Nat) (y : Int), k < xs.length → sumL (xs.set k y) = sumL xs - getI xs k + y := by
  induction xs with
  | nil => intro k y h; simp at h
  | cons x xs ih =>
    intro k y h
    cases k with
    | zero => simp only [List.set_cons_zero, sumL, List.sum_cons, getI, List.getElem?_cons_zero, Option.getD_some]; omega
    | succ k =>
      have := ih k y (by simpa using h)
      simp only [List.set_cons_succ, sumL, List.sum_cons, getI, List.getElem?_cons_succ] at this ⊢
      omega
/-- The stakes of the first k of the votes l, summed up. -/
def totK (ss : List Int) (l : List Vt) : Nat → Int
  | 0 => 0
  | k + 1 => totK ss l k + getI ss (getV l k).1.toNat
theorem totK_bd {n : Nat} {ss : List Int} {l : List Vt} (hv : VotesOf n ss.length l) (hb : Bds ss) : ∀ k, k ≤ l.length → 0 ≤ totK ss l k ∧ totK ss l k ≤ 1000 * k := by
  intro k
  induction k with
  | zero => intro _; simp [totK]
  | succ k ih =>
    intro hk
    obtain ⟨⟨x, hx, hxm⟩, _⟩ := hv k (by omega)
    have h1 := ih (by omega)
    have h3 := hb x hxm
    have hg : getI ss x = ss[x]?.getD 0 := rfl
    simp only [totK]
    rw [hx, Int.toNat_natCast, hg]
    omega
theorem wts_tot {n : Nat} {ss : List Int} {l : List Vt} (hv : VotesOf n ss.length l) (hb : Bds ss) (hl : l.length ≤ 60) : ∀ k, k ≤ l.length → sumL (wtsK n ss l k) = totK ss l k := by
  intro k
  induction k with
  | zero => intro _; simp [wtsK, totK, sumL]
  | succ k ih =>
    intro hk
    obtain ⟨⟨x, hx, hxm⟩, ⟨b, hbb, hbn⟩⟩ := hv k (by omega)
    have h2 := wtsK_bd hv hb hl k (by omega) b
    have h3 := hb x hxm
    have hg : getI ss x = ss[x]?.getD 0 := rfl
    simp only [wtsK, totK]
    rw [hx, hbb, Int.toNat_natCast, Int.toNat_natCast]
    unfold addI
    rw [sum_setI _ _ _ (by rw [wtsK_len]; exact hbn), ih (by omega), hg]
    unfold wrap64
    omega
def wtWR (ts : List Blk) (ss : List Int) (vs : List Vt) (now keep : Int) : Int := if trimOK ts ss vs now keep = true then totK ss (latList (actR ts ss vs now keep)) (latList (actR ts ss vs now keep)).length else 0
theorem act_pool' {ts : List Blk} {ss : List Int} {vs : List Vt} {now keep : Int} (h : trimOK ts ss vs now keep = true) : poolOk ts ss (actR ts ss vs now keep) = true := by
  unfold actR
  rw [if_pos h]
  exact poolOk_filter (trimOK_iff.1 h).1 _

set_option maxHeartbeats 400000 in
theorem implSumW_any (A : Option Addr) (n c B : Nat) (xs : List Int) (w : World) (h : IntsAt w B A n xs) (hn : n ≤ 1048576) (hb : ∀ k, k < xs.length → 0 ≤ xs[k]?.getD 0 ∧ xs[k]?.getD 0 ≤ 60000) :
    Calls Try.prog 160 #[.slice A n c] w fun e w' => e = .returned (.int .i64 (sumL xs)) ∧ w = w' := by
  have hl' := Lib.hid h.1
  have hr := Lib.hid h; clear h
  have hb' := Lib.hid hb; clear hb
  go_enter Try.func160, Try.ntmps160
  go_wp2
  go_loop [3, 8] (fun s i => ∃ k : Nat, k ≤ n ∧ i = .int .i64 k ∧ s = .int .i64 (sumL (xs.take k))) (fun _ i => n - (intOf i).toNat)
  case atStart => exact ⟨0, Nat.zero_le _, rfl, rfl⟩
  case round =>
    obtain ⟨k, hk, rfl, rfl⟩ := hrel
    by_cases hlt : k < n
    · obtain ⟨b, off, rfl, _, hc⟩ := hr.out.2 k hlt
      have hs := Lib.hid (sumL_step (s := xs) (k := k) (by rw [hl'.out]; exact hlt))
      obtain ⟨g1, g2⟩ := sumL_bd hb'.out k (by rw [hl'.out]; exact hk)
      obtain ⟨g3, g4⟩ := hb'.out k (by rw [hl'.out]; exact hlt)
      go_wp2
      go_round
      case rel => exact ⟨k + 1, by omega, by go_num, by rw [hs.out]⟩
      case measure => simp [intOf]; omega
    · go_wp2
      go_ret
      exact ⟨ret_int (sumL_end (by rw [hl'.out]; omega)), rfl⟩

set_option maxRecDepth 100000 in
set_option maxHeartbeats 1600000 in
theorem implWeightW_any (A : Option Addr) (n c : Nat) (ts : List Blk) (A' : Option Addr) (n' c' : Nat) (ss : List Int) (V : Option Addr) (m d : Nat) (vs : List Vt) (now keep : Int) (w : World) (h : BlksAt w w.heap.size A n ts) (h' : IntsAt w w.heap.size A' n' ss) (hv : VotesAt w w.heap.size V m vs) (hn : n ≤ 1048576) (hn' : n' ≤ 1048576) (hm : m ≤ 1048576) :
    Calls Try.prog 64 #[.slice A n c, .slice A' n' c', .agg #[.slice V m d], .int .i64 now, .int .i64 keep] w (UpPost w (.tuple #[.int .i64 (wtWR ts ss vs now keep), .bool (trimOK ts ss vs now keep)])) := by
  have hl := Lib.hid h.1; have hl' := Lib.hid h'.1
  have hh := Lib.hid h; have hh' := Lib.hid h'; have hvv := Lib.hid hv; clear h h' hv
  have bx0 := Lib.hid (Bx.start w (.slice V m d) 29)
  have hc0 := bx0.out.cell
  cases hg : trimOK ts ss vs now keep
  · have hr := Lib.hid (show wtWR ts ss vs now keep = 0 by unfold wtWR; rw [if_neg (by rw [hg]; decide)])
    go_enter Try.func64, Try.ntmps64
    go_wp2_with (go_at_call 50; refine (implActive_any A n c ts A' n' c' ss V m d vs now keep _ (hh.out.up bx0.out.below) (hh'.out.up' bx0.out.below) (hvv.out.up bx0.out.below) hn hn' hm).mono ?_; rw [hg]; rintro e w1 ⟨A1, n1, c1, rfl, o1, b1⟩; have kk := bx_below w1 (.cells #[.slice A1 n1 c1] 29); have x1 := Lib.hid (bx_row w1 (.slice A1 n1 c1) 29); have o2 := Lib.hid (o1.below kk); have b2 := b1.trans (kk.mono b1.size); have bx1 := Lib.hid (bx0.out.step b2); clear o1 b1 b2 kk hc0)
    go_ret2
    exact ⟨ret_two hr.out.symm rfl, bx1.out.below⟩
  · have hp := Lib.hid (act_pool' hg)
    have hlen := Lib.hid (actR_len ts ss vs now keep)
    have hr := Lib.hid (show wtWR ts ss vs now keep = sumL (wtsL ts ss (actR ts ss vs now keep)) by
      unfold wtWR wtsL
      rw [if_pos hg]
      exact (wts_tot (lat_of hp.out) (bds_of_good (poolOk_iff.1 hp.out).1.1.2) (lat_60 hp.out) _ (Nat.le_refl _)).symm)
    have hwr := Lib.hid (show wR ts ss (actR ts ss vs now keep) = wtsL ts ss (actR ts ss vs now keep) by unfold wR; rw [if_pos hp.out])
    have hwn := Lib.hid (show (wtsL ts ss (actR ts ss vs now keep)).length = n by rw [← hl.out]; exact wtsK_len _ _ _ _)
    have hbd := Lib.hid (fun k (_ : k < (wtsL ts ss (actR ts ss vs now keep)).length) => wts_bd hp.out k)
    go_enter Try.func64, Try.ntmps64
    go_wp2_with (first
      | (go_at_call 50; refine (implActive_any A n c ts A' n' c' ss V m d vs now keep _ (hh.out.up bx0.out.below) (hh'.out.up' bx0.out.below) (hvv.out.up bx0.out.below) hn hn' hm).mono ?_; rw [hg]; rintro e w1 ⟨A1, n1, c1, rfl, o1, b1⟩; have kk := bx_below w1 (.cells #[.slice A1 n1 c1] 29); have x1 := Lib.hid (bx_row w1 (.slice A1 n1 c1) 29); have o2 := Lib.hid (o1.below kk); have b2 := b1.trans (kk.mono b1.size); have bx1 := Lib.hid (bx0.out.step b2); clear o1 b1 b2 kk hc0; have hx1 := x1.out.cell (i := 0) (by omega))
      | (go_at_call 28; refine (implWeigh_any A n c ts A' n' c' ss A1 n1 c1 _ _ (hh.out.up bx1.out.below) (hh'.out.up' bx1.out.below) o2.out.votes hn hn' (by have := o2.out.len; have := hlen.out; omega)).mono ?_; rw [hp.out, hwr.out]; rintro e w3 ⟨A3, n3, c3, rfl, o3, b3⟩; have o3' := Lib.hid o3; have bx3 := Lib.hid (bx1.out.step b3); clear b3 o3)
      | (go_at_call 160; refine (implSumW_any A3 n3 c3 _ _ _ o3'.out.ints (by have := o3'.out.len; rw [hwn.out] at this; omega) hbd.out).mono ?_; rw [← hr.out]; rintro e w4 ⟨rfl, rfl⟩))
    go_ret2
    exact ⟨rfl, bx3.out.below⟩

set_option maxRecDepth 100000 in
set_option maxHeartbeats 1600000 in
theorem specWeightW_any (A : Option Addr) (n c : Nat) (ts : List Blk) (A' : Option Addr) (n' c' : Nat) (ss : List Int) (V : Option Addr) (m d : Nat) (vs : List Vt) (now keep : Int) (w : World) (h : BlksAt w w.heap.size A n ts) (h' : IntsAt w w.heap.size A' n' ss) (hv : VotesAt w w.heap.size V m vs) (hn : n ≤ 1048576) (hn' : n' ≤ 1048576) (hm : m ≤ 1048576) :
    Calls Try.prog 65 #[.slice A n c, .slice A' n' c', .agg #[.slice V m d], .int .i64 now, .int .i64 keep] w (UpPost w (.tuple #[.int .i64 (wtWR ts ss vs now keep), .bool (trimOK ts ss vs now keep)])) := by
  have hl := Lib.hid h.1; have hl' := Lib.hid h'.1
  have hh := Lib.hid h; have hh' := Lib.hid h'; have hvv := Lib.hid hv; clear h h' hv
  have bx0 := Lib.hid (Bx.start w (.slice V m d) 29)
  have hc0 := bx0.out.cell
  cases hg : trimOK ts ss vs now keep
  · have hr := Lib.hid (show wtWR ts ss vs now keep = 0 by unfold wtWR; rw [if_neg (by rw [hg]; decide)])
    go_enter Try.func65, Try.ntmps65
    go_wp2_with (go_at_call 51; refine (specActive_any A n c ts A' n' c' ss V m d vs now keep _ (hh.out.up bx0.out.below) (hh'.out.up' bx0.out.below) (hvv.out.up bx0.out.below) hn hn' hm).mono ?_; rw [hg]; rintro e w1 ⟨A1, n1, c1, rfl, o1, b1⟩; have kk := bx_below w1 (.cells #[.slice A1 n1 c1] 29); have x1 := Lib.hid (bx_row w1 (.slice A1 n1 c1) 29); have o2 := Lib.hid (o1.below kk); have b2 := b1.trans (kk.mono b1.size); have bx1 := Lib.hid (bx0.out.step b2); clear o1 b1 b2 kk hc0)
    go_ret2
    exact ⟨ret_two hr.out.symm rfl, bx1.out.below⟩
  · have hp := Lib.hid (act_pool' hg)
    have hlen := Lib.hid (show (actR ts ss vs now keep).length ≤ 60 from (poolOk_iff.1 hp.out).1.2)
    obtain ⟨P, hP⟩ : ∃ P, actR ts ss vs now keep = P := ⟨_, rfl⟩
    have hr := Lib.hid (show wtWR ts ss vs now keep = totK ss (latList P) (latList P).length by unfold wtWR; rw [if_pos hg, hP])
    rw [hP] at hp hlen
    have hP' := Lib.hid hP
    have hll := Lib.hid (show latL P (putsL P P.length) P.length = latList P from rfl)
    have hvo := Lib.hid (lat_of hp.out)
    have hbds := Lib.hid (bds_of_good (poolOk_iff.1 hp.out).1.1.2)
    have h60 := Lib.hid (lat_60 hp.out)
    clear hP
    go_enter Try.func65, Try.ntmps65
    go_wp2_with (first
      | (go_at_call 51; refine (specActive_any A n c ts A' n' c' ss V m d vs now keep _ (hh.out.up bx0.out.below) (hh'.out.up' bx0.out.below) (hvv.out.up bx0.out.below) hn hn' hm).mono ?_; rw [hg]; rintro e w1 ⟨A1, n1, c1, rfl, o1, b1⟩; have kk := bx_below w1 (.cells #[.slice A1 n1 c1] 29); have x1 := Lib.hid (bx_row w1 (.slice A1 n1 c1) 29); have o2 := Lib.hid (o1.below kk); have b2 := b1.trans (kk.mono b1.size); have bx1 := Lib.hid (bx0.out.step b2); clear o1 b1 b2 kk hc0; rw [hP'.out] at o2; have hx1 := x1.out.cell (i := 0) (by omega))
      | (go_at_call 121; have hn1 := o2.out.len; have hn6 : n1 ≤ 60 := (by have := hlen.out; omega); refine (l6Latest_any A1 n1 c1 P _ o2.out.votes hn6).mono ?_; have hl1 : latL P (putsL P n1) n1 = latList P := (by rw [← hn1]; exact hll.out); rw [hl1]; rintro e w3 ⟨A3, n3, c3, rfl, o3, b3⟩; have hvl := Lib.hid o3.votes; have hl3 := Lib.hid o3.len; have bx3 := Lib.hid (bx1.out.step b3); clear b3 o3 hn1 hn6 hl1 hx1))
    generalize latList P = l at hr hvo h60 hvl hl3
    have hn60 : n3 ≤ 60 := by rw [← hl3.out]; exact h60.out
    have hst := Lib.hid (hh'.out.up' bx3.out.below)
    go_loopw [14, 16, 32] (fun t _ i wr => ∃ k : Nat, k ≤ n3 ∧ i = .int .i64 k ∧ t = .int .i64 (totK ss l k) ∧ Hid (Below w3.heap.size w3 wr)) (fun _ _ i _ => n3 - (intOf i).toNat)
    case atStart => exact ⟨0, Nat.zero_le _, rfl, rfl, Lib.hid (Below.refl _ _)⟩
    case round =>
      obtain ⟨k, hk, rfl, rfl, hbel⟩ := hrel
      by_cases hlt : k < n3
      · obtain ⟨vb, vo, rfl, hvb, q0', q1', q2'⟩ := hvl.out.2 k hlt
        obtain ⟨⟨x, hx, hxm⟩, _⟩ := hvo.out k (by rw [hl3.out]; exact hlt)
        have q0 := (hbel.out.cell (p := ⟨vb, vo + k * 3, none⟩) hvb).trans q0'
        have q1 := (hbel.out.cell (p := ⟨vb, vo + k * 3 + 1, none⟩) hvb).trans q1'
        have q2 := (hbel.out.cell (p := ⟨vb, vo + k * 3 + 2, none⟩) hvb).trans q2'
        rw [hx] at q0
        obtain ⟨y, hy⟩ : ∃ y, (getV l k).2.1 = y := ⟨_, rfl⟩
        obtain ⟨z, hz⟩ : ∃ z, (getV l k).2.2 = z := ⟨_, rfl⟩
        rw [hy] at q1
        rw [hz] at q2
        have hbk := totK_bd hvo.out hbds.out k (by rw [hl3.out]; omega)
        have hsx := hbds.out x hxm
        rw [hl'.out] at hxm
        obtain ⟨sb, so, rfl, hsb, hsc0⟩ := hst.out.2 x hxm
        obtain ⟨s, hs⟩ : ∃ s, ss[x]?.getD 0 = s := ⟨_, rfl⟩
        have hb1 := bx_below wr (.cells #[.int .i64 (x : Int), .int .i64 y, .int .i64 z] 34)
        have u1 := Lib.hid (hbel.out.trans (hb1.mono hbel.out.size))
        have hsc := (u1.out.cell (p := ⟨sb, so + x, none⟩) hsb).trans hsc0
        rw [hs] at hsc hsx
        have hst2 := Lib.hid (show totK ss l (k + 1) = totK ss l k + s by simp only [totK]; rw [hx, Int.toNat_natCast]; unfold getI; rw [hs])
        have hxI : (x : Int) < (n' : Int) := by omega
        obtain ⟨T, hT⟩ : ∃ T, totK ss l k = T := ⟨_, rfl⟩
        rw [hT] at hst2 hbk
        rw [hT]
        clear q0' q1' q2' hx hy hz hsc0 hs hb1 hT
        go_wp2_with fail
        go_roundw
        case rel => exact ⟨k + 1, by omega, by go_num, by rw [hst2.out], u1⟩
        case measure => simp [intOf]; omega
      · have hkn : k = n3 := by omega
        have hr2 := Lib.hid (show wtWR ts ss vs now keep = totK ss l k by rw [hr.out, hl3.out, hkn])
        have bx9 := Lib.hid (bx3.out.step hbel.out)
        clear hkn
        go_wp2_with fail
        go_ret2
        exact ⟨ret_two hr2.out.symm rfl, bx9.out.below⟩
end Go.Proofs.Ytlobjfipefibaab
