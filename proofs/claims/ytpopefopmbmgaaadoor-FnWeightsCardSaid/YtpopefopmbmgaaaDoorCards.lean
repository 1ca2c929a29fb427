/-
  DERIVED. GIVEN WITH THE SEED: THE CARDS: each row of YtpopefopmbmgaaaDoorRows.lean that lists a variable, with what it lists TIED to the program's text (the seventh form; the later family's looks); each row that meets fmt, with fmt's text TOLD by the authors' own Lean function (tested against real Go, not proved from fmt's source: count such statements apart). THE CARD IS WHAT COUNTS. Prove the row's statement (the work); the ties are given (YtpopefopmbmgaaaDoorTie.lean); close each card by the builder's one call (the guide's Derived/Test/ToyasCard.lean, 'card_holds'). Laid BY PROGRAM, IN A SANDBOX (cutbox-door.mjs). By AI agents, Wed Nov 11 2026. No macro, syntax, notation, axiom, sorry.
-/
import Derived.Test.YtpopefopmbmgaaaDoorRows
import GoSem.ClaimSeven
namespace Go.Proofs.YtpopefopmbmgaaaDoor
namespace Rows

/-- THE TIED CARD OF 'laws.FnWeights'. -/
def fnWeightsCard : Claim7 := { stood := { row := fnWeightsRow, standIns := [], harness := (true, "9e8f1a5b717cf8b64132f874fd0c8cb3a1fafc8124817165cd142737e6cb8c6e"), looks := false }, kinds := [], alts := [], laidByText := true, laidKinds := [.data], laidTests := true, laidLooks := .later }
def FnWeightsCardSaid : Prop := Claim7.holds Tryd.pinned (.plain (OpenSpec.ofChange fnWeightsSpec)) fnWeightsCard

/-- THE TIED CARD OF 'laws.FnGreat'. -/
def fnGreatCard : Claim7 := { stood := { row := fnGreatRow, standIns := [], harness := (true, "9e8f1a5b717cf8b64132f874fd0c8cb3a1fafc8124817165cd142737e6cb8c6e"), looks := false }, kinds := [], alts := [], laidByText := true, laidKinds := [.data], laidTests := true, laidLooks := .later }
def FnGreatCardSaid : Prop := Claim7.holds Tryd.pinned (.plain (OpenSpec.ofChange fnGreatSpec)) fnGreatCard

/-- THE TIED CARD OF 'laws.FnExactInBoth'. -/
def fnExactInBothCard : Claim7 := { stood := { row := fnExactInBothRow, standIns := [], harness := (true, "9e8f1a5b717cf8b64132f874fd0c8cb3a1fafc8124817165cd142737e6cb8c6e"), looks := false }, kinds := [], alts := [], laidByText := true, laidKinds := [.data], laidTests := true, laidLooks := .later }
def FnExactInBothCardSaid : Prop := Claim7.holds Tryd.pinned (.plain (OpenSpec.ofChange fnExactInBothSpec)) fnExactInBothCard

/-- THE TIED CARD OF 'laws.FnExactSmallestGreat'. -/
def fnExactSmallestGreatCard : Claim7 := { stood := { row := fnExactSmallestGreatRow, standIns := [], harness := (true, "9e8f1a5b717cf8b64132f874fd0c8cb3a1fafc8124817165cd142737e6cb8c6e"), looks := false }, kinds := [], alts := [], laidByText := true, laidKinds := [.data], laidTests := true, laidLooks := .later }
def FnExactSmallestGreatCardSaid : Prop := Claim7.holds Tryd.pinned (.plain (OpenSpec.ofChange fnExactSmallestGreatSpec)) fnExactSmallestGreatCard

/-- THE TIED CARD OF 'laws.FnExactMaskOf'. -/
def fnExactMaskOfCard : Claim7 := { stood := { row := fnExactMaskOfRow, standIns := [], harness := (true, "9e8f1a5b717cf8b64132f874fd0c8cb3a1fafc8124817165cd142737e6cb8c6e"), looks := false }, kinds := [], alts := [], laidByText := true, laidKinds := [.data], laidTests := true, laidLooks := .later }
def FnExactMaskOfCardSaid : Prop := Claim7.holds Tryd.pinned (.plain (OpenSpec.ofChange fnExactMaskOfSpec)) fnExactMaskOfCard

/-- THE TIED CARD OF 'laws.FnExactOfMask'. -/
def fnExactOfMaskCard : Claim7 := { stood := { row := fnExactOfMaskRow, standIns := [], harness := (true, "9e8f1a5b717cf8b64132f874fd0c8cb3a1fafc8124817165cd142737e6cb8c6e"), looks := false }, kinds := [], alts := [], laidByText := true, laidKinds := [.data], laidTests := true, laidLooks := .later }
def FnExactOfMaskCardSaid : Prop := Claim7.holds Tryd.pinned (.plain (OpenSpec.ofChange fnExactOfMaskSpec)) fnExactOfMaskCard

/-- THE TIED CARD OF 'laws.FnExactLeastShared'. -/
def fnExactLeastSharedCard : Claim7 := { stood := { row := fnExactLeastSharedRow, standIns := [], harness := (true, "9e8f1a5b717cf8b64132f874fd0c8cb3a1fafc8124817165cd142737e6cb8c6e"), looks := false }, kinds := [], alts := [], laidByText := true, laidKinds := [.data], laidTests := true, laidLooks := .later }
def FnExactLeastSharedCardSaid : Prop := Claim7.holds Tryd.pinned (.plain (OpenSpec.ofChange fnExactLeastSharedSpec)) fnExactLeastSharedCard

/-- THE SECOND FORM's CARD OF 'laws.FnWeights'. -/
def fnWeightsUptoCard : Claim7 := { stood := { row := fnWeightsUptoRow, standIns := [], harness := (true, "9e8f1a5b717cf8b64132f874fd0c8cb3a1fafc8124817165cd142737e6cb8c6e"), looks := false }, kinds := [], alts := [], laidByText := true, laidKinds := [.data], laidTests := true, laidLooks := .later }
def FnWeightsUptoCardSaid : Prop := Claim7.holds Tryd.pinned (.plain (OpenSpec.upto fnWeightsSpec)) fnWeightsUptoCard

/-- THE SECOND FORM's CARD OF 'laws.FnGreat'. -/
def fnGreatUptoCard : Claim7 := { stood := { row := fnGreatUptoRow, standIns := [], harness := (true, "9e8f1a5b717cf8b64132f874fd0c8cb3a1fafc8124817165cd142737e6cb8c6e"), looks := false }, kinds := [], alts := [], laidByText := true, laidKinds := [.data], laidTests := true, laidLooks := .later }
def FnGreatUptoCardSaid : Prop := Claim7.holds Tryd.pinned (.plain (OpenSpec.upto fnGreatSpec)) fnGreatUptoCard

/-- THE SECOND FORM's CARD OF 'laws.FnExactInBoth'. -/
def fnExactInBothUptoCard : Claim7 := { stood := { row := fnExactInBothUptoRow, standIns := [], harness := (true, "9e8f1a5b717cf8b64132f874fd0c8cb3a1fafc8124817165cd142737e6cb8c6e"), looks := false }, kinds := [], alts := [], laidByText := true, laidKinds := [.data], laidTests := true, laidLooks := .later }
def FnExactInBothUptoCardSaid : Prop := Claim7.holds Tryd.pinned (.plain (OpenSpec.upto fnExactInBothSpec)) fnExactInBothUptoCard

/-- THE SECOND FORM's CARD OF 'laws.FnExactSmallestGreat'. -/
def fnExactSmallestGreatUptoCard : Claim7 := { stood := { row := fnExactSmallestGreatUptoRow, standIns := [], harness := (true, "9e8f1a5b717cf8b64132f874fd0c8cb3a1fafc8124817165cd142737e6cb8c6e"), looks := false }, kinds := [], alts := [], laidByText := true, laidKinds := [.data], laidTests := true, laidLooks := .later }
def FnExactSmallestGreatUptoCardSaid : Prop := Claim7.holds Tryd.pinned (.plain (OpenSpec.upto fnExactSmallestGreatSpec)) fnExactSmallestGreatUptoCard

/-- THE SECOND FORM's CARD OF 'laws.FnExactMaskOf'. -/
def fnExactMaskOfUptoCard : Claim7 := { stood := { row := fnExactMaskOfUptoRow, standIns := [], harness := (true, "9e8f1a5b717cf8b64132f874fd0c8cb3a1fafc8124817165cd142737e6cb8c6e"), looks := false }, kinds := [], alts := [], laidByText := true, laidKinds := [.data], laidTests := true, laidLooks := .later }
def FnExactMaskOfUptoCardSaid : Prop := Claim7.holds Tryd.pinned (.plain (OpenSpec.upto fnExactMaskOfSpec)) fnExactMaskOfUptoCard

/-- THE SECOND FORM's CARD OF 'laws.FnExactOfMask'. -/
def fnExactOfMaskUptoCard : Claim7 := { stood := { row := fnExactOfMaskUptoRow, standIns := [], harness := (true, "9e8f1a5b717cf8b64132f874fd0c8cb3a1fafc8124817165cd142737e6cb8c6e"), looks := false }, kinds := [], alts := [], laidByText := true, laidKinds := [.data], laidTests := true, laidLooks := .later }
def FnExactOfMaskUptoCardSaid : Prop := Claim7.holds Tryd.pinned (.plain (OpenSpec.upto fnExactOfMaskSpec)) fnExactOfMaskUptoCard

/-- THE SECOND FORM's CARD OF 'laws.FnExactLeastShared'. -/
def fnExactLeastSharedUptoCard : Claim7 := { stood := { row := fnExactLeastSharedUptoRow, standIns := [], harness := (true, "9e8f1a5b717cf8b64132f874fd0c8cb3a1fafc8124817165cd142737e6cb8c6e"), looks := false }, kinds := [], alts := [], laidByText := true, laidKinds := [.data], laidTests := true, laidLooks := .later }
def FnExactLeastSharedUptoCardSaid : Prop := Claim7.holds Tryd.pinned (.plain (OpenSpec.upto fnExactLeastSharedSpec)) fnExactLeastSharedUptoCard
end Rows
end Go.Proofs.YtpopefopmbmgaaaDoor
