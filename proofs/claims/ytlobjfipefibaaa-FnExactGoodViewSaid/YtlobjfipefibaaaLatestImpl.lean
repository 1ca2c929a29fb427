/- What is proved here: what the program's LatestIn returns. No conditions but lengths. -/
import Derived.Test.YtlobjfipefibaaaLatestFacts
import Derived.Test.YtlobjfipefibaaaVotersMap
import Derived.Test.YtlobjfipefibaaaVoteApp
namespace Go.Proofs.Ytlobjfipefibaaa
open Go.RowKit Go.Maps

def RetVotes (w : World) (b : Bool) (vs : List Vt) (e : Ending) (w' : World) : Prop :=
  ∃ A n c, e = .returned (.tuple #[.slice A n c, .bool b]) ∧ OwnV w' w.heap.size A n vs ∧ Below w.heap.size w w'
def RetVs (w : World) (vs : List Vt) (e : Ending) (w' : World) : Prop :=
  ∃ A n c, e = .returned (.slice A n c) ∧ OwnV w' w.heap.size A n vs ∧ Below w.heap.size w w'
def latR (ts : List Blk) (ss : List Int) (vs : List Vt) : List Vt := if poolOk ts ss vs = true then latList vs else []
theorem latR_len (ts : List Blk) (ss : List Int) (vs : List Vt) : (latR ts ss vs).length ≤ 100 := by
  unfold latR
  split
  · next h => have := (poolOk_iff.1 h).1.2; have := latList_len vs; omega
  · exact Nat.zero_le _
theorem who_bd {ts : List Blk} {ss : List Int} {vs : List Vt} (h : poolOk ts ss vs = true) : ∀ k, k < vs.length → 0 ≤ (getV vs k).1 ∧ (getV vs k).1 ≤ 1000 := by
  intro k hk
  obtain ⟨⟨⟨_, hg⟩, _⟩, h2, _⟩ := poolOk_iff.1 h
  obtain ⟨⟨i, hi, hi'⟩, _⟩ := voteOk_iff.1 (h2 k hk)
  have := (goodB_len hg).2
  omega
theorem putL_mem {l : List Int} {x y : Int} (h : y ∈ putL l x) : y = x ∨ y ∈ l := by
  unfold putL at h
  split at h
  · exact .inr h
  · rw [List.mem_append, List.mem_cons] at h
    rcases h with h | h | h
    · exact .inr (List.mem_of_mem_take h)
    · exact .inl h
    · exact .inr (List.mem_of_mem_drop h)
theorem puts_bd {vs : List Vt} {x : Int} : ∀ m, x ∈ putsL vs m → ∃ k, k < m ∧ (getV vs k).1 = x := by
  intro m
  induction m with
  | zero => intro h; cases h
  | succ m ih =>
    intro h
    simp only [putsL] at h
    split at h
    · rcases putL_mem h with e | h
      · exact ⟨m, by omega, e.symm⟩
      · obtain ⟨k, hk, e⟩ := ih h; exact ⟨k, by omega, e⟩
    · obtain ⟨k, hk, e⟩ := ih h; exact ⟨k, by omega, e⟩
theorem put_bd {ts : List Blk} {ss : List Int} {vs : List Vt} (h : poolOk ts ss vs = true) : ∀ j, j < (putsL vs vs.length).length → 0 ≤ (putsL vs vs.length)[j]?.getD 0 ∧ (putsL vs vs.length)[j]?.getD 0 ≤ 1000 := by
  intro j hj
  rw [List.getElem?_eq_getElem hj, Option.getD_some]
  obtain ⟨k, hk, e⟩ := puts_bd _ (List.getElem_mem hj)
  rw [← e]
  exact who_bd h k hk
theorem zeroVote (w : World) : (zeroValue 53).run Try.prog w = .ok (vtV (0, 0, 0)) w := by
  obtain ⟨i0, hi, hzz⟩ := Option.map_eq_some_iff.1 infoVote
  simp only [Prod.mk.injEq] at hzz
  unfold zeroValue
  simp [typeInfo, hi, hzz.1, vtV]

set_option maxRecDepth 100000 in
set_option maxHeartbeats 1600000 in
theorem implLatest_any (A : Option Addr) (n c : Nat) (ts : List Blk) (A' : Option Addr) (n' c' : Nat) (ss : List Int) (V : Option Addr) (m d : Nat) (vs : List Vt) (w : World) (h : BlksAt w w.heap.size A n ts) (h' : IntsAt w w.heap.size A' n' ss) (hv : VotesAt w w.heap.size V m vs) (hn : n ≤ 1048576) (hn' : n' ≤ 1048576) (hm : m ≤ 1048576) :
    Calls Try.prog 132 #[.slice A n c, .slice A' n' c', .agg #[.slice V m d]] w (RetVotes w (poolOk ts ss vs) (latR ts ss vs)) := by
  have hlv := Lib.hid hv.1
  have hh := Lib.hid h; have hh' := Lib.hid h'; have hvv := Lib.hid hv; clear h h' hv
  have bx0 := Lib.hid (Bx.start w (.slice V m d) 29)
  have hc0 := bx0.out.cell
  cases hg : poolOk ts ss vs
  · have hr := Lib.hid (show latR ts ss vs = [] by unfold latR; rw [hg]; rfl)
    go_enter Try.func132, Try.ntmps132
    go_wp2_with (go_at_call 81; refine (goodPool_any A n c ts A' n' c' ss V m d vs _ (hh.out.up bx0.out.below) (hh'.out.up' bx0.out.below) (hvv.out.up bx0.out.below) hn hn' hm).mono ?_; rintro e w1 ⟨rfl, b1⟩; rw [hg]; have bx1 := Lib.hid (bx0.out.step b1); clear b1)
    go_ret2
    exact ⟨none, 0, 0, rfl, by rw [hr.out]; exact OwnV.nil _ _, bx1.out.below⟩
  · obtain ⟨⟨_, h60⟩, _, hs⟩ := poolOk_iff.1 hg
    have hr := Lib.hid (show latR ts ss vs = latList vs by unfold latR; rw [hg, if_pos rfl])
    have hs' := Lib.hid hs
    have hwb := Lib.hid (who_bd hg)
    have hpb := Lib.hid (show ∀ j, j < (putsL vs m).length → 0 ≤ (putsL vs m)[j]?.getD 0 ∧ (putsL vs m)[j]?.getD 0 ≤ 1000 by rw [← hlv.out]; exact put_bd hg)
    have hm60 : m ≤ 60 := by rw [← hlv.out]; exact h60
    have hmap := Lib.hid (show delL (latD vs m) (putsL vs m) (putsL vs m).length = latMap vs by unfold latMap; rw [hlv.out])
    have hll := Lib.hid (latList_len vs)
    clear hs h60
    go_enter Try.func132, Try.ntmps132
    go_wp2_with (first
      | (go_at_call 81; refine (goodPool_any A n c ts A' n' c' ss V m d vs _ (hh.out.up bx0.out.below) (hh'.out.up' bx0.out.below) (hvv.out.up bx0.out.below) hn hn' hm).mono ?_; rintro e w1 ⟨rfl, b1⟩; rw [hg]; have bx1 := Lib.hid (bx0.out.step b1); have hc1 := bx1.out.cell; clear b1)
      | (go_at_call 149; refine (latestBy_any V m d vs _ (hvv.out.up bx1.out.below) hm60 hs'.out hwb.out hpb.out).mono ?_; rintro e w2 ⟨b, rfl, hown, hb, b2⟩; have bx2 := Lib.hid (bx1.out.step b2); rw [hmap.out] at hown; have y2 := Lib.hid hown; have hbl := Lib.hid hown.lt; clear hown b2 hb)
      | (go_at_call 150; refine (voters_any b m (latMap vs) _ y2.out hm60).mono ?_; rintro e w3 ⟨ssx, ⟨hn1, hk1⟩, A3, n3, c3, rfl, o3, b3⟩; have bx3 := Lib.hid (bx2.out.step b3); rw [keys_eq hs'.out hn1 hk1] at o3; have o3' := Lib.hid o3; have y3 := Lib.hid (y2.out.kept (row := none) ⟨b3.os, b3.tape, b3.output, b3.size, fun k hk _ => b3.block k hk⟩ (by simp)); clear b3 o3 hn1 hk1))
    have hn3 := Lib.hid (show (latList vs).length = n3 by have := o3'.out.len; simpa using this)
    have hn60 : n3 ≤ 60 := by have := hn3.out; have := hll.out; rw [hlv.out] at this; omega
    have hbl3 := Lib.hid y3.out.lt
    have i3 := Lib.hid o3'.out.ints
    go_loopw [9, 11, 22] (fun o _ i wr => ∃ k : Nat, k ≤ n3 ∧ i = .int .i64 k ∧ Hid (wr.ownsRow w3.heap.size 53 3 o ((latList vs).take k).length (flatV ((latList vs).take k))) ∧ Hid (Below w3.heap.size w3 wr)) (fun _ _ i _ => n3 - (intOf i).toNat)
    case atStart => exact ⟨0, Nat.zero_le _, rfl, Lib.hid (World.ownsRow_nil _ _ _ _), Lib.hid (Below.refl _ _)⟩
    case round =>
      obtain ⟨k, hk, rfl, ho, hbel⟩ := hrel
      have hws := hbel.out.size
      have htl := Lib.hid (show ((latList vs).take k).length = k by rw [List.length_take, hn3.out]; omega)
      by_cases hlt : k < n3
      · obtain ⟨lb, lo, rfl, hlb, hlc⟩ := i3.out.2 k hlt
        have hlc' := (hbel.out.cell (p := ⟨lb, lo + k, none⟩) hlb).trans hlc
        rw [map_get1 _ (by rw [hn3.out]; exact hlt)] at hlc'
        have hlook := Lib.hid (lat_lookup hs'.out (j := k) (by rw [hn3.out]; exact hlt) (votD (0, 0, 0)))
        obtain ⟨i, hi1, hi2⟩ := latList_in (vs := vs) (j := k) (by rw [hn3.out]; exact hlt)
        have hwk := hwb.out i hi1
        rw [hi2] at hwk
        have htk := Lib.hid (take_getV (l := latList vs) (j := k) (by rw [hn3.out]; exact hlt))
        obtain ⟨v, hv⟩ : ∃ v, getV (latList vs) k = v := ⟨_, rfl⟩
        rw [hv] at hlc' hlook hwk htk
        obtain ⟨v1, v2, v3⟩ := v
        simp only at hlc' hlook hwk
        have hkey := Lib.hid (keyI hwk.1 hwk.2)
        have hown := Lib.hid (y3.out.kept (row := none) ⟨hbel.out.os, hbel.out.tape, hbel.out.output, hbel.out.size, fun k hk _ => hbel.out.block k hk⟩ (by simp))
        have hbox := three_cells wr v1 v2 v3 53
        have e0 := hbox.cell (i := 0) (by omega)
        have e1 := hbox.cell (i := 1) (by omega)
        have e2 := hbox.cell (i := 2) (by omega)
        simp only [if_true, if_false, show (1 : Nat) ≠ 0 by decide, show (2 : Nat) ≠ 0 by decide, show (2 : Nat) ≠ 1 by decide] at e0 e1 e2
        have E0 := Lib.hid e0; have E1 := Lib.hid e1; have E2 := Lib.hid e2
        clear hlc hi1 hi2 hv hwk hbox e0 e1 e2
        go_wp2_with (first
          | (at_lookup; refine wpList_lookup_votes _ rfl _ _ 170 rfl 3 53 lawI Try.underlying170 (zeroVote _) b m (latMap vs) rfl hown.out _ _ rfl hkey.out ?_; intro vv hvv2; have hvq : vv = (v1, v2, v3) := votD_inj (hvv2.symm.trans hlook.out); subst hvq; clear hvv2; simp only [vtV])
          | (at_builtin; refine appendVt _ rfl _ _ 27 rfl w3.heap.size Try.underlying27 _ ((latList vs).take k) rfl (ho.out.alloc _) wr.heap.size 1 v1 v2 v3 rfl E0.out E1.out E2.out (by rw [htl.out]; omega) (by simp; omega) ?_; intro g c9 w9 r1 r2 r3; have z1 := Lib.hid r1; have z2 := Lib.hid r2; clear r1 r2 r3))
        have u9 := Lib.hid (show Below w3.heap.size w3 w9 from (hbel.out.alloc hws (.cells #[.int .i64 v1, .int .i64 v2, .int .i64 v3] 53)).grown z2.out (by simp; omega) (fun j e => ((ho.out.alloc (.cells #[.int .i64 v1, .int .i64 v2, .int .i64 v3] 53)).lt j e).1))
        go_roundw
        case rel => exact ⟨k + 1, by omega, by go_num, Lib.hid (by rw [htk.out]; simpa using z1.out), u9⟩
        case measure => simp [intOf]; omega
      · have hkn : k = n3 := by omega
        have htk := Lib.hid (show (latList vs).take k = latList vs by rw [List.take_of_length_le (by rw [hn3.out]; omega)])
        have bx4 := Lib.hid (bx3.out.step hbel.out)
        have hsz3 := bx3.out.size
        clear hkn
        go_wp2_with fail
        go_ret2
        obtain ⟨A6, c6, e6, o6⟩ := OwnV.of_owns ho.out
        rw [htk.out] at e6 o6
        exact ⟨A6, _, c6, by rw [e6]; rfl, by rw [hr.out]; exact o6.fewer (by omega), bx4.out.below⟩
end Go.Proofs.Ytlobjfipefibaaa
