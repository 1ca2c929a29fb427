/- What is proved here: what the list of all quorums and the smallest quorum are, in the program and in the model, at every slice of integers. No conditions but that the table of bits holds what its text lays. -/
import Derived.Test.YtpopefopmbmgaaaDoorWeights
namespace Go.Proofs.YtpopefopmbmgaaaDoor
open Go.RowKit

def qtest (W : List Int) (m : Nat) : Bool := decide (2 * W[W.length - 1]?.getD 0 ≤ 3 * W[m]?.getD 0)
def qmN (W : List Int) (k : Nat) : List Nat := (List.range k).filter (qtest W)
def toI (l : List Nat) : List Int := l.map fun (m : Nat) => (m : Int)
theorem toI_get {l : List Nat} {i : Nat} (h : i < l.length) : (toI l)[i]?.getD 0 = ((l[i]?.getD 0 : Nat) : Int) := by
  simp [toI, h]
theorem toI_len (l : List Nat) : (toI l).length = l.length := by simp [toI]
theorem qm_yes {W : List Int} {k : Nat} (h : qtest W k = true) : toI (qmN W (k + 1)) = toI (qmN W k) ++ [(k : Int)] := by
  simp [toI, qmN, List.range_succ, List.filter_append, h]
theorem qm_no {W : List Int} {k : Nat} (h : qtest W k = false) : toI (qmN W (k + 1)) = toI (qmN W k) := by
  simp [toI, qmN, List.range_succ, List.filter_append, h]
theorem qm_len (W : List Int) (k : Nat) : (toI (qmN W k)).length ≤ k := by
  rw [toI_len]
  exact Nat.le_trans (List.length_filter_le _ _) (by simp)

def RetCap (w : World) (xs : List Int) (e : Ending) (w' : World) : Prop :=
  ∃ A n c, e = .returned (.slice A n c) ∧ OwnAt w' w.heap.size A n xs ∧ Below w.heap.size w w' ∧ n ≤ c ∧ c ≤ maxLen
theorem owns_cap {w : World} {B : Nat} {v : Value} {n : Nat} {xs : List Value} (h : w.ownsRow B 3 1 v n xs) : ∀ A m c, v = .slice A m c → m ≤ c ∧ c ≤ maxLen := by
  intro A m c e
  rcases h.2 with ⟨rfl, _⟩ | ⟨g, cap, cur, rfl, _, _, h1, h2, _⟩
  · cases e; exact ⟨Nat.le_refl _, Nat.zero_le _⟩
  · cases e; exact ⟨h1, h2⟩

set_option maxHeartbeats 800000 in
set_option maxRecDepth 100000 in
theorem quorumMasks_cap (A : Option Addr) (n c : Nat) (W : List Int) (w : World) (h : IntsAt w w.heap.size A n W) (h1 : 0 < n) (hn : n ≤ 1048576) (hb : ∀ k, k < W.length → 0 ≤ W[k]?.getD 0 ∧ W[k]?.getD 0 ≤ 1048576) :
    Calls Tryd.prog 50 #[.slice A n c] w (RetCap w (toI (qmN W n))) := by
  obtain ⟨i0, hi0, hz0, hz1, hz2⟩ := info_parts info3
  have hl' := Lib.hid h.1
  obtain ⟨b, off, rfl, hbB, hcl⟩ := h.2 (n - 1) (by omega)
  have hr := Lib.hid h; clear h
  obtain ⟨t1, t2⟩ := hb (n - 1) (by rw [hl'.out]; omega)
  have hb' := Lib.hid hb; clear hb
  have hk2 : ((n : Int) - 1).toNat = n - 1 := by omega
  have hb1 : (0 : Int) ≤ (n : Int) - 1 := by omega
  have hb2 : (n : Int) - 1 < (n : Int) := by omega
  go_enter Tryd.func50, Tryd.ntmps50
  go_wp2
  clear hk2 hb1 hb2 hcl
  go_loopw [4, 15] (fun v i wr => ∃ k : Nat, k ≤ n ∧ i = .int .i64 k ∧ wr.ownsRow w.heap.size 3 1 v (toI (qmN W k)).length ((toI (qmN W k)).map (Value.int .i64)) ∧ Below w.heap.size w wr) (fun _ i _ => n - (intOf i).toNat)
  case atStart => exact ⟨0, by omega, rfl, World.ownsRow_nil _ _ _ _, Below.refl _ _⟩
  case round =>
    obtain ⟨k, hk, rfl, hown, hbel⟩ := hrel
    have hlen := qm_len W k
    by_cases hlt : k < n
    · obtain ⟨b', off', e', hbB', hc0⟩ := hr.out.2 k hlt
      simp only [Option.some.injEq, Addr.mk.injEq, and_true] at e'
      obtain ⟨rfl, rfl⟩ := e'
      have hc := (hbel.cell (p := ⟨b, off + k, none⟩) hbB').trans hc0
      clear hc0
      obtain ⟨t3, t4⟩ := hb'.out k (by rw [hl'.out]; exact hlt)
      have hq := Lib.hid (show qtest W k = decide (2 * W[n - 1]?.getD 0 ≤ 3 * W[k]?.getD 0) by unfold qtest; rw [hl'.out])
      cases hx : decide (2 * W[n - 1]?.getD 0 ≤ 3 * W[k]?.getD 0)
      · have hs := Lib.hid (qm_no (hq.out.trans hx))
        have hown' := Lib.hid hown; clear hown
        go_wp2_with (go_at_call 40; refine (isQuorum_any _ _ _ t3 (by omega) t1 (by omega)).mono ?_; rintro e w' ⟨rfl, rfl⟩)
        go_roundw
        case rel => exact ⟨k + 1, by omega, by go_num, by rw [hs.out]; exact hown'.out, hbel⟩
        case measure => simp [intOf]; omega
      · have hs := Lib.hid (qm_yes (hq.out.trans hx))
        go_wp2_with (first
          | (go_at_call 40; refine (isQuorum_any _ _ _ t3 (by omega) t1 (by omega)).mono ?_; rintro e w' ⟨rfl, rfl⟩)
          | (at_builtin; refine wpList_append_own _ rfl _ _ 23 rfl w.heap.size 3 i0 (.int .i64 0) 1 8 Tryd.underlying23 hi0 hz0 hz1 hz2 rfl (by decide) _ _ _ rfl (hown.alloc _) ⟨wr.heap.size, 0, none⟩ 1 1 [.int .i64 (k : Int)] rfl rfl ?c1 ?c2 ?c3 ?c4 ?c5 ?_))
        case c1 =>
          intro j u hj
          match j, hj with
          | 0, hj => simp at hj; subst hj; simp [Addr.add]
        case c2 => intro u hu; simp at hu; subst hu; rfl
        case c3 => unfold maxLen; omega
        case c4 => omega
        case c5 => have := hbel.size; simp; omega
        intro v' w1 hown1 hgrow _
        have hbel1 : Below w.heap.size w w1 := (hbel.alloc hbel.size _).grown hgrow (by simp; have := hbel.size; omega) (fun g hg => (hown.lt g hg).1)
        have hown1' := Lib.hid hown1; clear hown1 hgrow
        go_wp2
        go_roundw
        case rel =>
          refine ⟨k + 1, by omega, by go_num, ?_, hbel1⟩
          have := hown1'.out
          rw [hs.out]
          simpa using this
        case measure => simp [intOf]; omega
    · have hkk : k = n := by omega
      rw [hkk] at hown
      have hcap := owns_cap hown
      obtain ⟨A0, c0, rfl, hoa⟩ := OwnAt.of_owns hown
      have hcap' := Lib.hid (hcap A0 _ c0 rfl)
      have hoa' := Lib.hid hoa
      clear hown hoa hkk hlen hcap
      go_wp2
      go_ret
      exact ⟨A0, _, c0, rfl, hoa'.out, hbel, hcap'.out⟩
theorem quorumMasks_any (A : Option Addr) (n c : Nat) (W : List Int) (w : World) (h : IntsAt w w.heap.size A n W) (h1 : 0 < n) (hn : n ≤ 1048576) (hb : ∀ k, k < W.length → 0 ≤ W[k]?.getD 0 ∧ W[k]?.getD 0 ≤ 1048576) :
    Calls Tryd.prog 50 #[.slice A n c] w (RetSl w (toI (qmN W n))) :=
  (quorumMasks_cap A n c W w h h1 hn hb).mono fun _ _ ⟨A0, n0, c0, he, ho, hb, _⟩ => ⟨A0, n0, c0, he, ho, hb⟩

/-! ### The quorums of some stakes -/
theorem ofL_stop {m n : Nat} (h : m < 2 ^ n) : ∀ d, ofL m (n + d) = ofL m n := by
  intro d
  induction d with
  | zero => rfl
  | succ d ih =>
    rw [show n + (d + 1) = n + d + 1 by omega, ofL_no, ih]
    exact Nat.testBit_lt_two_pow (Nat.lt_of_lt_of_le h (Nat.pow_le_pow_right (by omega) (by omega)))
theorem ofL_ten {m n : Nat} (h : m < bitN n) (hn : n ≤ 10) : ofL m 10 = ofL m n := by
  have := ofL_stop (show m < 2 ^ n from h) (10 - n)
  rwa [show n + (10 - n) = 10 by omega] at this
theorem ofL_full (n : Nat) : ofL (bitN n - 1) n = (List.range n).map fun (i : Nat) => (i : Int) := by
  unfold ofL bitN
  congr 1
  rw [List.filter_eq_self]
  intro i hi
  rw [Nat.testBit_two_pow_sub_one]
  simpa using hi
theorem stakes_all (s : List Int) : stakesOf s ((List.range s.length).map fun (i : Nat) => (i : Int)) = s := by
  refine List.ext_getElem (by simp [stakesOf]) fun i h1 h2 => ?_
  simp [stakesOf, h2]
theorem gw_full (s : List Int) : gw s (bitN s.length - 1) = sumL s := by
  unfold gw wtL
  rw [ofL_full, stakes_all]
def gq (s : List Int) (m : Nat) : Bool := decide (2 * sumL s ≤ 3 * gw s m)
def qsTo (s : List Int) (k : Nat) : List Nat := (List.range k).filter (gq s)
def gwL (s : List Int) : List Int := (List.range (bitN s.length)).map (gw s)
theorem gwL_len (s : List Int) : (gwL s).length = bitN s.length := by simp [gwL]
theorem gwL_get {s : List Int} {m : Nat} (h : m < bitN s.length) : (gwL s)[m]?.getD 0 = gw s m := by simp [gwL, h]
theorem qmN_gwL (s : List Int) : qmN (gwL s) (bitN s.length) = qsTo s (bitN s.length) := by
  unfold qmN qsTo
  refine List.filter_congr fun m hm => ?_
  have hm' : m < bitN s.length := by simpa using hm
  have hp := bitN_pos s.length
  unfold qtest gq
  rw [gwL_len, gwL_get hm', gwL_get (by omega), gw_full]
theorem gq_great {s : List Int} {m : Nat} (hn : s.length ≤ 10) (h : m < bitN s.length) : greatB s (ofL m 10) = gq s m := by
  unfold greatB gq gw
  rw [ofL_ten h hn]
theorem gq_full {s : List Int} (hb : Bds s) : gq s (bitN s.length - 1) = true := by
  unfold gq
  rw [gw_full]
  have := (sumL_all hb).1
  simp; omega

/-- The quorum with the fewest voters, of the first ones that have so few. -/
def pickO (o : Option Nat) (m : Nat) : Option Nat := match o with
  | none => some m
  | some b => if cnt m < cnt b then some m else some b
def bestO (l : List Nat) : Option Nat := l.foldl pickO none
theorem bestO_snoc (l : List Nat) (m : Nat) : bestO (l ++ [m]) = pickO (bestO l) m := by simp [bestO]
theorem qsTo_yes {s : List Int} {k : Nat} (h : gq s k = true) : qsTo s (k + 1) = qsTo s k ++ [k] := by
  simp [qsTo, List.range_succ, List.filter_append, h]
theorem qsTo_no {s : List Int} {k : Nat} (h : gq s k = false) : qsTo s (k + 1) = qsTo s k := by
  simp [qsTo, List.range_succ, List.filter_append, h]
def whoO (o : Option Nat) : List Int := match o with
  | none => []
  | some b => ofL b 10
def smallR (s : List Int) : List Int := if goodB s = true then whoO (bestO (qsTo s (bitN s.length))) else []
theorem whoO_len (o : Option Nat) : (whoO o).length ≤ 10 := by
  cases o
  · simp [whoO]
  · exact ofL_len _ _
theorem smallR_len (s : List Int) : (smallR s).length ≤ 10 := by
  unfold smallR; split
  · exact whoO_len _
  · simp
end Go.Proofs.YtpopefopmbmgaaaDoor
