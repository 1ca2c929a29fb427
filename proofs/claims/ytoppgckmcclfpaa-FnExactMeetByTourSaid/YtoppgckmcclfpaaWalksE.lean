/- What is proved here: what WeightOf and IsGreat return, in the program and in the model, at every two slices of integers. No conditions. -/
import Derived.Test.YtoppgckmcclfpaaWalksD
namespace Go.Proofs.Ytoppgckmcclfpaa
open Go.RowKit

theorem ret_two {a b : Int} {c d : Bool} (h : a = b) (h' : c = d) : Ending.returned (.tuple #[.int .i64 a, .bool c]) = .returned (.tuple #[.int .i64 b, .bool d]) := by rw [h, h']
theorem ret_bools {a b c d : Bool} (h : a = b) (h' : c = d) : Ending.returned (.tuple #[.bool a, .bool c]) = .returned (.tuple #[.bool b, .bool d]) := by rw [h, h']

def wOf (s who : List Int) : Int := if ofB s who = true then wtL s who else 0
def gOf (s who : List Int) : Bool := ofB s who && greatB s who

/-- Stakes that are good: their bounds, one by one. -/
def Bds (s : List Int) : Prop := ∀ k, k < s.length → 0 ≤ s[k]?.getD 0 ∧ s[k]?.getD 0 ≤ 1000
theorem bds_of_good {s : List Int} (h : goodB s = true) : Bds s := fun k hk => by
  have := allB_get (goodB_iff.1 h).2 hk; omega
/-- Some voters of some stakes. -/
def Vot (m : Nat) (who : List Int) : Prop := ∀ k, k < who.length → 0 ≤ who[k]?.getD 0 ∧ who[k]?.getD 0 < (m : Int)
theorem vot_of_ris {m : Nat} {who : List Int} (h : risB who 0 ((m : Int) - 1) = true) : Vot m who := fun k hk => by
  have := risB_in h hk; omega
theorem bds_stakesOf {s who : List Int} (h : Bds s) (hv : Vot s.length who) : Bds (stakesOf s who) := fun k hk => by
  rw [stakesOf_len] at hk
  rw [stakesOf_get s who hk]
  have := hv k hk
  exact h _ (by omega)

end Go.Proofs.Ytoppgckmcclfpaa
