/- What is proved here: how a map from integers to votes reads, and the look-up in it. No conditions. -/
import Derived.Test.YthiegfbdmmpabaaVoteFacts
import Derived.Maps.OwnOps
import Derived.Maps.OwnSet
import Derived.Maps.RangeWalk
import Derived.Test.YthiegfbdmmpabaaLiarsImpl
namespace Go.Proofs.Ythiegfbdmmpabaa
open Go.RowKit Go.Maps

/-- How a vote reads as an element of a map. -/
def votD (v : Vt) : DataW Unit := .agg [.lit (.int .i64 v.1), .lit (.int .i64 v.2.1), .lit (.int .i64 v.2.2)]
def votL (l : List Value) : Option (DataW Unit × List MemPlace) :=
  match l with
  | [.int .i64 a, .int .i64 b, .int .i64 c] => some (votD (a, b, c), [])
  | _ => none
def votE (v : Value) : Option (DataW Unit × List MemPlace) :=
  match v with
  | .agg cs => votL cs.toList
  | _ => none
theorem votE_mk (v : Vt) : votE (vtV v) = some (votD v, []) := rfl
theorem votE_inv {u : Value} {z : DataW Unit × List MemPlace} (h : votE u = some z) : ∃ v : Vt, u = vtV v ∧ z = (votD v, []) := by
  unfold votE at h
  split at h
  · next cs =>
    unfold votL at h
    split at h
    · next a b c e =>
      injection h with h
      refine ⟨(a, b, c), ?_, h.symm⟩
      unfold vtV
      congr 1
      exact Array.ext' e
    · cases h
  · cases h
theorem votD_inj {u v : Vt} (h : votD u = votD v) : u = v := by
  obtain ⟨a, b, c⟩ := u
  obtain ⟨a', b', c'⟩ := v
  unfold votD at h
  injection h with h
  injection h with h1 h
  injection h with h2 h
  injection h with h3 _
  injection h1 with h1
  injection h1 with _ h1
  injection h2 with h2
  injection h2 with _ h2
  injection h3 with h3
  injection h3 with _ h3
  subst h1; subst h2; subst h3; rfl

/-- 'm[k]' at a map of votes: the walk goes on with some vote, of which the datum says what it is. -/
theorem wpList_lookup_votes {P : Program} (w : World) {ops : Array Oper} {rest : List Oper} {o : Oper} {a : Act} {Q : Exit → Act → World → Prop}
    (hg : o.guard = none) (m x : Operand) (t : TypeId) (hop : o.op = Op.lookup t m x false)
    (k e : TypeId) (K : Keyed P k) (ht : P.underlying t = some (.map k e)) (hz : (zeroValue e).run P w = .ok (vtV (0, 0, 0)) w) (b n : Nat) (D : DataW Unit)
    (hm : a.eval m = .map (some b)) (hown : w.ownsMap P k votE b n D) (key : Value) (kl : Lit) (hx : a.eval x = key) (hkey : keyOf P k key = some kl)
    (hK : ∀ v : Vt, D.atKey kl (votD (0, 0, 0)) = votD v → wpList P ops Q rest (a.put o.dst (vtV v)) w) :
    wpList P ops Q (o :: rest) a w := by
  refine wpList_plain hg fun K' hK' => ?_
  obtain ⟨u, ps, hrun, hv⟩ := hown.lookup K ht hz (votE_mk (0, 0, 0)) hkey
  obtain ⟨v, rfl, hc⟩ := votE_inv hv
  simp only [Prod.mk.injEq] at hc
  unfold Oper.wp
  simp [execOp, hop, hm, hx, hrun, Result.andThen]
  exact hK' _ _ (hK v hc.1)

/-- The map after the first k votes: each voter's last one. -/
def latD (vs : List Vt) : Nat → DataW Unit
  | 0 => .map []
  | k + 1 => (latD vs k).put (.int .i64 (getV vs k).1) (votD (getV vs k))
theorem latD_isMap (vs : List Vt) (k : Nat) : IsMap (latD vs k) := by
  induction k with
  | zero => exact isMap_empty
  | succ k ih => exact ih.put _ _
/-- The voter x has voted among the first k. -/
def votedB (vs : List Vt) (k : Nat) (x : Int) : Bool := (List.range k).any fun i => (getV vs i).1 == x
theorem voted_succ (vs : List Vt) (k : Nat) (x : Int) : votedB vs (k + 1) x = (votedB vs k x || ((getV vs k).1 == x)) := by
  unfold votedB; rw [List.range_succ, List.any_append]; simp
theorem lat_has (vs : List Vt) (x : Int) : ∀ k, Maps.has (latD vs k) (.int .i64 x) = votedB vs k x := by
  intro k
  induction k with
  | zero => rfl
  | succ k ih =>
    rw [voted_succ]
    by_cases e : (getV vs k).1 = x
    · subst e
      rw [show ((getV vs k).1 == (getV vs k).1) = true by simp, Bool.or_true]
      exact has_put_same (latD_isMap vs k) (by simp [WideAt.IsKeyLit]) _
    · rw [show ((getV vs k).1 == x) = false by simp [e], Bool.or_false]
      show Maps.has ((latD vs k).put _ _) _ = _
      rw [has_put_other (fun h => e (by injection h with _ h; exact h.symm)), ih]
/-- What the map holds of the voter x: its last vote among the first k. -/
theorem lat_at {vs : List Vt} {x : Int} {j : Nat} : ∀ k, j < k → (getV vs j).1 = x → (∀ i, j < i → i < k → (getV vs i).1 ≠ x) → ∀ z, (latD vs k).atKey (.int .i64 x) z = votD (getV vs j) := by
  intro k
  induction k with
  | zero => intro h; omega
  | succ k ih =>
    intro hj hx hno z
    show ((latD vs k).put _ _).atKey _ z = _
    by_cases e : j = k
    · subst e
      rw [← hx]
      exact atKey_put_same (latD_isMap vs j) (by simp [WideAt.IsKeyLit]) _ z
    · rw [atKey_put_other (fun h => hno k (by omega) (by omega) (by injection h with _ h; exact h.symm))]
      exact ih (by omega) hx (fun i h1 h2 => hno i h1 (by omega)) z
end Go.Proofs.Ythiegfbdmmpabaa

/- What is proved here: what the program's latestByVoter returns, where the votes are a valid pool's. No conditions but lengths. -/
namespace Go.Proofs.Ythiegfbdmmpabaa
open Go.RowKit Go.Maps

/-- The voters of a list struck. -/
def delL (D : DataW Unit) (l : List Int) : Nat → DataW Unit
  | 0 => D
  | j + 1 => (delL D l j).del (.int .i64 (l[j]?.getD 0))
theorem keyI {x : Int} (h0 : 0 ≤ x) (h1 : x ≤ 1000) : keyOf Try.prog 3 (.int .i64 x) = some (.int .i64 x) := keyOf_int_mk Try.underlying3 (WalkArith.wf_i64 (by omega))
theorem lawI : Keyed Try.prog 3 := int_keyed Try.underlying3

set_option maxRecDepth 100000 in
set_option maxHeartbeats 1600000 in
theorem latestBy_any (V : Option Addr) (m d : Nat) (vs : List Vt) (w : World) (hv : VotesAt w w.heap.size V m vs) (hm : m ≤ 60) (hs : ∀ k, k < vs.length → k ≠ 0 → lessV (getV vs (k - 1)) (getV vs k) = true) (hw : ∀ k, k < vs.length → 0 ≤ (getV vs k).1 ∧ (getV vs k).1 ≤ 1000) (hp : ∀ j, j < (putsL vs m).length → 0 ≤ (putsL vs m)[j]?.getD 0 ∧ (putsL vs m)[j]?.getD 0 ≤ 1000) :
    Calls Try.prog 127 #[.agg #[.slice V m d]] w fun e w' => ∃ b, e = .returned (.map (some b)) ∧ w'.ownsMap Try.prog 3 votE b m (delL (latD vs m) (putsL vs m) (putsL vs m).length) ∧ w.heap.size ≤ b ∧ Below w.heap.size w w' := by
  have hlv := Lib.hid hv.1
  have hvv := Lib.hid hv; clear hv
  have hs' := Lib.hid hs; have hw' := Lib.hid hw; have hp' := Lib.hid hp
  clear hs hw hp
  have bx0 := Lib.hid (Bx.start w (.slice V m d) 55)
  have hc0 := bx0.out.cell
  have hmm := @run_makeMap Try.prog
  have hsz0 : (w.alloc (.cells #[.slice V m d] 55)).heap.size = w.heap.size + 1 := by simp
  have hm0 := Lib.hid (World.ownsMap_made (w.alloc (.cells #[.slice V m d] 55)) Try.prog 3 votE)
  have bx1 := Lib.hid (bx0.out.step (bx_below _ (.map #[] 0)))
  rw [hsz0] at hm0
  go_enter Try.func127, Try.ntmps127
  go_wp2_with fail
  clear hmm
  go_loopw [5, 12] (fun _ i wr => ∃ k : Nat, k ≤ m ∧ i = .int .i64 k ∧ Hid (wr.ownsMap Try.prog 3 votE (w.heap.size + 1) k (latD vs k)) ∧ Hid (Bx w (.slice V m d) 55 wr)) (fun _ i _ => m - (intOf i).toNat)
  case atStart => exact ⟨0, Nat.zero_le _, rfl, hm0, bx1⟩
  case round =>
    obtain ⟨k, hk, rfl, hown, hbx⟩ := hrel
    by_cases hlt : k < m
    · obtain ⟨vb, vo, rfl, hvb, q0, q1, q2⟩ := hvv.out.2 k hlt
      have q0' := (hbx.out.below.cell (p := ⟨vb, vo + k * 3, none⟩) hvb).trans q0
      have q1' := (hbx.out.below.cell (p := ⟨vb, vo + k * 3 + 1, none⟩) hvb).trans q1
      have q2' := (hbx.out.below.cell (p := ⟨vb, vo + k * 3 + 2, none⟩) hvb).trans q2
      have hwk := hw'.out k (by rw [hlv.out]; exact hlt)
      obtain ⟨b, hb⟩ : ∃ b, getV vs k = b := ⟨_, rfl⟩
      rw [hb] at q0' q1' q2' hwk
      obtain ⟨b1, b2, b3⟩ := b
      simp only at q0' q1' q2' hwk
      have hst := Lib.hid (show latD vs (k + 1) = (latD vs k).put (.int .i64 b1) (votD (b1, b2, b3)) by simp only [latD]; rw [hb])
      have hkey := Lib.hid (keyI hwk.1 hwk.2)
      have bx2 := Lib.hid (hbx.out.step (bx_below wr (.cells #[.int .i64 b1, .int .i64 b2, .int .i64 b3] 63)))
      have hsz := hbx.out.size
      clear q0 q1 q2 hb hwk
      go_wp2_with (at_mapUpdate; refine wpList_mapUpdate_own _ rfl _ _ _ 136 rfl 3 63 lawI Try.underlying136 votE (w.heap.size + 1) k (latD vs k) rfl (hown.out.alloc _) (by unfold maxLen; omega) _ _ _ rfl rfl hkey.out _ [] (votE_mk (b1, b2, b3)) ?_; intro w1 hown1 hgrow1; have z1 := Lib.hid hown1; have z2 := Lib.hid hgrow1; clear hown1 hgrow1)
      have bx3 := Lib.hid (show Bx w (.slice (some ⟨vb, vo, none⟩) m d) 55 w1 from ⟨bx2.out.up.grown z2.out bx2.out.size (fun j e => by cases e; exact Nat.le_refl _)⟩)
      go_roundw
      case rel => exact ⟨k + 1, by omega, by go_num, Lib.hid (by rw [hst.out]; exact z1.out), bx3⟩
      case measure => simp [intOf]; omega
    · have hkm : k = m := by omega
      have hown' := Lib.hid (show wr.ownsMap Try.prog 3 votE (w.heap.size + 1) m (latD vs m) by rw [hkm] at hown; exact hown.out)
      have hcx := hbx.out.cell
      have hpl := putsL_len vs m
      clear hkm hown
      go_wp2_with (go_at_call 130; refine (liarsIn_any V m d vs _ (hvv.out.up hbx.out.below) hm hs'.out).mono ?_; rintro e w2 ⟨A2, n2, c2, rfl, o2, b2⟩; have hn2 := o2.len; have o2' := Lib.hid o2; have y2 := Lib.hid (hown'.out.kept (row := none) ⟨b2.os, b2.tape, b2.output, b2.size, fun k hk _ => b2.block k hk⟩ (by simp)); have bx2 := Lib.hid (hbx.out.step b2); clear o2 b2)
      subst hn2
      go_loopw [7, 24] (fun _ i wq => ∃ j : Nat, j ≤ (putsL vs m).length ∧ i = .int .i64 j ∧ Hid (wq.ownsMap Try.prog 3 votE (w.heap.size + 1) m (delL (latD vs m) (putsL vs m) j)) ∧ Hid (Bx w (.slice V m d) 55 wq) ∧ Hid (OwnAt wq wr.heap.size A2 (putsL vs m).length (putsL vs m))) (fun _ i _ => (putsL vs m).length - (intOf i).toNat)
      case atStart => exact ⟨0, Nat.zero_le _, rfl, y2, bx2, o2'⟩
      case round =>
        obtain ⟨j, hj, rfl, hown, hbq, hol⟩ := hrel
        by_cases hjl : j < (putsL vs m).length
        · obtain ⟨lb, lo, rfl, _, hlc⟩ := hol.out.ints.2 j hjl
          have hpj := hp'.out j hjl
          obtain ⟨x, hx⟩ : ∃ x, (putsL vs m)[j]?.getD 0 = x := ⟨_, rfl⟩
          rw [hx] at hlc hpj
          have hst := Lib.hid (show delL (latD vs m) (putsL vs m) (j + 1) = (delL (latD vs m) (putsL vs m) j).del (.int .i64 x) by simp only [delL]; rw [hx])
          have hkey := Lib.hid (keyI hpj.1 hpj.2)
          have hlow := hol.out.low _ rfl
          have hlow' := Lib.hid hlow.1
          have hsr := hown'.out.lt
          have hjI : (j : Int) < ((putsL vs m).length : Int) := by omega
          clear hx hpj hlow
          go_wp2_with (at_delete; refine wpList_delete_own _ rfl _ _ 136 3 rfl 63 lawI Try.underlying136 votE (w.heap.size + 1) m (delL (latD vs m) (putsL vs m) j) rfl hown.out _ _ rfl hkey.out ?_; intro w3 hown3 hturn3; have z1 := Lib.hid hown3; have z2 := Lib.hid hturn3.grown; clear hown3 hturn3)
          have bx3 := Lib.hid (show Bx w (.slice V m d) 55 w3 from ⟨hbq.out.up.grown z2.out hbq.out.size (fun j e => by cases e; exact Nat.le_refl _)⟩)
          have ol3 := Lib.hid (hol.out.keep (w' := w3) z2.out.size (fun ad e => z2.out.block _ (hol.out.low ad e).2 (by cases e; intro h; injection h with h; have h2 : lb = w.heap.size + 1 := h; have h3 : _ ≤ lb := hlow'.out; omega)))
          go_roundw
          case rel => exact ⟨j + 1, by omega, by go_num, Lib.hid (by rw [hst.out]; exact z1.out), bx3, ol3⟩
          case measure => simp [intOf]; omega
        · have hje : j = (putsL vs m).length := by omega
          have y3 := Lib.hid (show wr.ownsMap Try.prog 3 votE (w.heap.size + 1) m (delL (latD vs m) (putsL vs m) (putsL vs m).length) by rw [hje] at hown; exact hown.out)
          clear hje
          go_wp2_with fail
          go_ret
          exact ⟨w.heap.size + 1, rfl, y3.out, by omega, hbq.out.below⟩
end Go.Proofs.Ythiegfbdmmpabaa
