/- What is proved here: what the functions on groups of voters return, at every two slices of integers. No conditions. -/
import Derived.Test.YtbggglddgpeobaaWalksC
import Derived.Test.YtbggglddgpeobaaGroup
namespace Go.Proofs.Ytbggglddgpeobaa
open Go.RowKit

def lastOf (xs : List Int) (k : Nat) : Int := if k = 0 then -1 else xs[k-1]?.getD 0
theorem risAt_last {xs : List Int} {k : Nat} (h1 : lastOf xs k < xs[k]?.getD 0) (h2 : xs[k]?.getD 0 < 10) (h0 : -1 ≤ lastOf xs k) : risAt xs 0 9 k = true := by
  rw [risAt_iff]
  unfold lastOf at *
  split at h1
  · exact ⟨⟨by omega, by omega⟩, by omega⟩
  · rename_i hk; simp only [hk, if_false] at h0; exact ⟨⟨by omega, by omega⟩, fun _ => h1⟩
theorem risAt_not {xs : List Int} {k : Nat} (h : xs[k]?.getD 0 ≤ lastOf xs k ∨ 10 ≤ xs[k]?.getD 0) : risAt xs 0 9 k = false := by
  cases e : risAt xs 0 9 k
  · rfl
  · rw [risAt_iff] at e
    unfold lastOf at h
    split at h
    · omega
    · have := e.2 (by omega); omega

end Go.Proofs.Ytbggglddgpeobaa
