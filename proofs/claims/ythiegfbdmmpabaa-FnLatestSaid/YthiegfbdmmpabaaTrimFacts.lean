/- What is proved here: plain facts on the votes of a stretch of slots. No conditions. -/
import Derived.Test.YthiegfbdmmpabaaPoolFacts
namespace Go.Proofs.Ythiegfbdmmpabaa
open Go.RowKit

def trimP (now keep : Int) (v : Vt) : Bool := decide (now - keep ≤ v.2.1)
def finP (now : Int) (v : Vt) : Bool := decide (v.2.1 < now)
/-- The votes whose slots are in a stretch, as the model says it. -/
def witP (lo hi : Int) (v : Vt) : Bool := decide (lo ≤ v.2.1) && decide (v.2.1 < hi)
def nowB (now : Int) : Bool := inB now 1 4000
def keepB (keep : Int) : Bool := inB keep 1 100
def trimOK (ts : List Blk) (ss : List Int) (vs : List Vt) (now keep : Int) : Bool := poolOk ts ss vs && (nowB now && keepB keep)
def finOK (ts : List Blk) (ss : List Int) (vs : List Vt) (now : Int) : Bool := poolOk ts ss vs && nowB now
def trimR (ts : List Blk) (ss : List Int) (vs : List Vt) (now keep : Int) : List Vt := if trimOK ts ss vs now keep = true then vs.filter (trimP now keep) else []
def finR (ts : List Blk) (ss : List Int) (vs : List Vt) (now : Int) : List Vt := if finOK ts ss vs now = true then vs.filter (finP now) else []
def actR (ts : List Blk) (ss : List Int) (vs : List Vt) (now keep : Int) : List Vt := if trimOK ts ss vs now keep = true then vs.filter (witP (now - keep) now) else []
theorem trimOK_iff {ts : List Blk} {ss : List Int} {vs : List Vt} {now keep : Int} : trimOK ts ss vs now keep = true ↔ poolOk ts ss vs = true ∧ (1 ≤ now ∧ now ≤ 4000) ∧ 1 ≤ keep ∧ keep ≤ 100 := by
  unfold trimOK nowB keepB
  rw [Bool.and_eq_true, Bool.and_eq_true, inB_iff, inB_iff]
theorem finOK_iff {ts : List Blk} {ss : List Int} {vs : List Vt} {now : Int} : finOK ts ss vs now = true ↔ poolOk ts ss vs = true ∧ 1 ≤ now ∧ now ≤ 4000 := by
  unfold finOK nowB
  rw [Bool.and_eq_true, inB_iff]
theorem pool_60 {ts : List Blk} {ss : List Int} {vs : List Vt} (h : poolOk ts ss vs = true) (p : Vt → Bool) : (vs.filter p).length ≤ 60 := Nat.le_trans (List.length_filter_le _ _) (poolOk_iff.1 h).1.2
theorem trimR_len (ts : List Blk) (ss : List Int) (vs : List Vt) (now keep : Int) : (trimR ts ss vs now keep).length ≤ 100 := by
  unfold trimR
  split
  · next h => have := pool_60 (trimOK_iff.1 h).1 (trimP now keep); omega
  · exact Nat.zero_le _
theorem finR_len (ts : List Blk) (ss : List Int) (vs : List Vt) (now : Int) : (finR ts ss vs now).length ≤ 100 := by
  unfold finR
  split
  · next h => have := pool_60 (finOK_iff.1 h).1 (finP now); omega
  · exact Nat.zero_le _
theorem actR_len (ts : List Blk) (ss : List Int) (vs : List Vt) (now keep : Int) : (actR ts ss vs now keep).length ≤ 100 := by
  unfold actR
  split
  · next h => have := pool_60 (trimOK_iff.1 h).1 (witP (now - keep) now); omega
  · exact Nat.zero_le _
theorem slot_in {ts : List Blk} {ss : List Int} {vs : List Vt} (h : poolOk ts ss vs = true) {v : Vt} (hv : v ∈ vs) : 1 ≤ v.2.1 ∧ v.2.1 ≤ 4000 := by
  obtain ⟨_, h2, _⟩ := poolOk_iff'.1 h
  exact (voteOk_iff.1 (h2 v hv)).2.2
theorem wit_trim {ts : List Blk} {ss : List Int} {vs : List Vt} (h : poolOk ts ss vs = true) (now keep : Int) : vs.filter (witP (now - keep) 4001) = vs.filter (trimP now keep) := by
  refine List.filter_congr fun v hv => ?_
  have := slot_in h hv
  unfold witP trimP
  rw [decide_eq_true (show v.2.1 < 4001 by omega), Bool.and_true]
theorem wit_fin {ts : List Blk} {ss : List Int} {vs : List Vt} (h : poolOk ts ss vs = true) (now : Int) : vs.filter (witP 0 now) = vs.filter (finP now) := by
  refine List.filter_congr fun v hv => ?_
  have := slot_in h hv
  unfold witP finP
  rw [decide_eq_true (show 0 ≤ v.2.1 by omega), Bool.true_and]
theorem wit_act (vs : List Vt) (now keep : Int) : (vs.filter (trimP now keep)).filter (finP now) = vs.filter (witP (now - keep) now) := by
  rw [List.filter_filter]
  refine List.filter_congr fun v _ => ?_
  unfold witP trimP finP
  rw [Bool.and_comm]
end Go.Proofs.Ythiegfbdmmpabaa
