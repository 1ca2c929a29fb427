/- What is proved here: a slice of votes that can be read as data holds a list of triples. No conditions. -/
import Derived.Test.YthiegfbdmmpabaaVotes
import Derived.Deep.Strs
import Derived.Deep.SlicePairs
namespace Go.Proofs.Ythiegfbdmmpabaa
open Go.ChangeShapes Go.WideShapes Go.RowKit

theorem list3 {α : Type} {l : List α} (h : l.length = 3) : ∃ a b c, l = [a, b, c] := by
  cases l with
  | nil => cases h
  | cons a l =>
    cases l with
    | nil => cases h
    | cons b l =>
      cases l with
      | nil => cases h
      | cons c l =>
        cases l with
        | nil => exact ⟨a, b, c, rfl⟩
        | cons d l => simp at h

end Go.Proofs.Ythiegfbdmmpabaa
