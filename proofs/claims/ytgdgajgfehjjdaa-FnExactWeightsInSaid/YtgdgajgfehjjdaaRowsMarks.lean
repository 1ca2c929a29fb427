/- What is proved here: what the law's marking of a slice of slices, and its look at the marks, do to it. No conditions. -/
import Derived.Test.YtgdgajgfehjjdaaRowsWalks
namespace Go.Proofs.Ytgdgajgfehjjdaa
open Go.RowKit

theorem markT_done {rows : List (List Int)} {k : Nat} : markT rows (k + 1) k = marks (1 + tot rows k) (rowG rows k).length := by
  unfold markT; rw [if_pos (by omega)]
theorem markT_other {rows : List (List Int)} {k j : Nat} (h : j ≠ k) : markT rows (k + 1) j = markT rows k j := by
  unfold markT
  by_cases e : j < k
  · rw [if_pos e, if_pos (by omega)]
  · rw [if_neg e, if_neg (by omega)]

def MarksPost (w : World) (B : Nat) (A : Option Addr) (n : Nat) (rows : List (List Int)) (e : Ending) (w' : World) : Prop :=
  e = .returned (.int .i64 (1 + (tot rows n : Nat))) ∧ RowsOwn w' B A n (markT rows n) ∧ Below B w w'

end Go.Proofs.Ytgdgajgfehjjdaa
