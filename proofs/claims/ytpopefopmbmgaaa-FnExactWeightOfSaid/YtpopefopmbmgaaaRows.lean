/-
  No cell of these rows narrows 'for every input' (looked for: loops, veiled, ifaces, maps, wideKeys, modest, calm, conditions, laid).
  DERIVED. THE GIVEN ROWS OF THIS SEAT. 3 by the template 'for every input the law returns true; each argument reads behind the call as it read before'; 0 by the template 'total and deterministic' (their statements: YtpopefopmbmgaaaTotals.lean).
  GIVEN WITH THE SEED: the statements are not yours to turn. If you find one false, say at which input.
  Laid BY PROGRAM, IN A SANDBOX (cutbox-rows.mjs): the forced cells as the released guide's own fill.sh prints them over the translation 4987d7deffa7d586… (all of the seat's roots in one cut). By AI agents, Wed Nov 11 2026. No macro, syntax, notation, axiom, sorry.
-/
import Derived.Test.YtpopefopmbmgaaaChecked
import GoSem.Claim
import GoSem.ClaimJoined
import GoSem.ClaimMapViews
import Derived.JoinedTies
import Derived.KernelRfl
namespace Go.Proofs.Ytpopefopmbmgaaa
/- THE CELL 'sum', in the pinned program and in every row, IS THE sha256 OF THE DUMP (.gsa) THAT YtpopefopmbmgaaaProg.lean LOADS. Nothing in Lean hashes anything: it is a label: what it is worth is what the hold of that sum in a sandbox is worth. -/
noncomputable def Try.pinned : Pinned := { name := "ytpopefopmbmgaaa", sum := "4987d7deffa7d586fa3d99a807568118e70c1695df3d2d76274e88fc46458040", checked := Try.checked }
namespace Rows
def none {H : Type} : Left H := { results := [], args := [] }

/-- 'laws.FnExactGoodStakes': WHATEVER THE INPUT: true; the input reads as it did. -/
def fnExactGoodStakesSpec : ChangeSpec := { name := "fnExactGoodStakes", fn := fun _ => fun
  | [d] => { results := [.lit (.bool true)], args := [d] }
  | _ => none }
def fnExactGoodStakesRow : OpenClaim := { program := "ytpopefopmbmgaaa", sum := "4987d7deffa7d586fa3d99a807568118e70c1695df3d2d76274e88fc46458040", func := "loop.example/g00564/laws.FnExactGoodStakes", spec := "fnExactGoodStakes", apart := false }
def FnExactGoodStakesSaid : Prop := fnExactGoodStakesRow.holds Try.pinned (OpenSpec.ofChange fnExactGoodStakesSpec)

/-- ITS FALSE NEIGHBOUR: 'it returns false'. Refute it at one input. -/
def fnExactGoodStakesWrong : ChangeSpec := { name := "fnExactGoodStakes", fn := fun _ => fun
  | [d] => { results := [.lit (.bool false)], args := [d] }
  | _ => none }
def FnExactGoodStakesWrongFalsely : Prop := fnExactGoodStakesRow.holds Try.pinned (OpenSpec.ofChange fnExactGoodStakesWrong)

/-- 'laws.FnExactWeightOf': WHATEVER THE INPUT: true; the input reads as it did. -/
def fnExactWeightOfSpec : ChangeSpec := { name := "fnExactWeightOf", fn := fun _ => fun
  | [d1, d2] => { results := [.lit (.bool true)], args := [d1, d2] }
  | _ => none }
def fnExactWeightOfRow : OpenClaim := { program := "ytpopefopmbmgaaa", sum := "4987d7deffa7d586fa3d99a807568118e70c1695df3d2d76274e88fc46458040", func := "loop.example/g00564/laws.FnExactWeightOf", spec := "fnExactWeightOf", apart := false }
def FnExactWeightOfSaid : Prop := fnExactWeightOfRow.holds Try.pinned (OpenSpec.ofChange fnExactWeightOfSpec)

/-- ITS FALSE NEIGHBOUR: 'it returns false'. Refute it at one input. -/
def fnExactWeightOfWrong : ChangeSpec := { name := "fnExactWeightOf", fn := fun _ => fun
  | [d1, d2] => { results := [.lit (.bool false)], args := [d1, d2] }
  | _ => none }
def FnExactWeightOfWrongFalsely : Prop := fnExactWeightOfRow.holds Try.pinned (OpenSpec.ofChange fnExactWeightOfWrong)

/-- 'laws.FnExactIsGreat': WHATEVER THE INPUT: true; the input reads as it did. -/
def fnExactIsGreatSpec : ChangeSpec := { name := "fnExactIsGreat", fn := fun _ => fun
  | [d1, d2] => { results := [.lit (.bool true)], args := [d1, d2] }
  | _ => none }
def fnExactIsGreatRow : OpenClaim := { program := "ytpopefopmbmgaaa", sum := "4987d7deffa7d586fa3d99a807568118e70c1695df3d2d76274e88fc46458040", func := "loop.example/g00564/laws.FnExactIsGreat", spec := "fnExactIsGreat", apart := false }
def FnExactIsGreatSaid : Prop := fnExactIsGreatRow.holds Try.pinned (OpenSpec.ofChange fnExactIsGreatSpec)

/-- ITS FALSE NEIGHBOUR: 'it returns false'. Refute it at one input. -/
def fnExactIsGreatWrong : ChangeSpec := { name := "fnExactIsGreat", fn := fun _ => fun
  | [d1, d2] => { results := [.lit (.bool false)], args := [d1, d2] }
  | _ => none }
def FnExactIsGreatWrongFalsely : Prop := fnExactIsGreatRow.holds Try.pinned (OpenSpec.ofChange fnExactIsGreatWrong)

/- THE SECOND FORM. 'bulk': how many values and letters a reading holds, each counted each time it is reached (what is shared counts as often as it is met; a slice's spare places count too). A statement '..UptoSaid' is the law's where the arguments, and the package variables that the reading takes, are together of bulk at most 1048576: NARROWER than '..Said'. Prove '..Said' where nothing that the law and all that it calls make is longer than what came in: it says more and counts as full. Else prove '..UptoSaid'. A law counts once. -/
mutual
def uptoBulk {H : Type} : DataW H → Nat
  | .lit (.string bytes) => bytes.length + 1
  | .lit _ => 1
  | .nil => 1
  | .ptr d => uptoBulk d + 1
  | .slice elems spare => uptoBulkAll elems + uptoBulkAll spare + 1
  | .agg parts => uptoBulkAll parts + 1
  | .iface _ d => uptoBulk d + 1
  | .map entries => uptoBulkEntries entries + 1
  | .held _ => 1
def uptoBulkAll {H : Type} : List (DataW H) → Nat
  | [] => 0
  | d :: r => uptoBulk d + uptoBulkAll r
def uptoBulkEntries {H : Type} : List (Lit × DataW H) → Nat
  | [] => 0
  | x :: r => uptoBulkEntry x + uptoBulkEntries r
def uptoBulkEntry {H : Type} : Lit × DataW H → Nat
  | (.string bytes, d) => bytes.length + uptoBulk d + 1
  | (_, d) => uptoBulk d + 1
 end
def uptoSmall : (H : Type) → List (DataW H) → Bool := fun _ ds => decide (uptoBulkAll ds ≤ 1048576)
def OpenSpec.upto (s : _root_.Go.ChangeSpec) : _root_.Go.OpenSpec := { _root_.Go.OpenSpec.ofChange s with cond := some uptoSmall }

/-- 'laws.FnExactGoodStakes', WHERE WHAT IT READS IS OF BULK AT MOST 1048576: true; the input reads as it did. -/
def fnExactGoodStakesUptoRow : OpenClaim := { program := "ytpopefopmbmgaaa", sum := "4987d7deffa7d586fa3d99a807568118e70c1695df3d2d76274e88fc46458040", func := "loop.example/g00564/laws.FnExactGoodStakes", spec := "fnExactGoodStakes", apart := false, narrowed := true }
def FnExactGoodStakesUptoSaid : Prop := fnExactGoodStakesUptoRow.holds Try.pinned (OpenSpec.upto fnExactGoodStakesSpec)

/-- 'laws.FnExactWeightOf', WHERE WHAT IT READS IS OF BULK AT MOST 1048576: true; the input reads as it did. -/
def fnExactWeightOfUptoRow : OpenClaim := { program := "ytpopefopmbmgaaa", sum := "4987d7deffa7d586fa3d99a807568118e70c1695df3d2d76274e88fc46458040", func := "loop.example/g00564/laws.FnExactWeightOf", spec := "fnExactWeightOf", apart := false, narrowed := true }
def FnExactWeightOfUptoSaid : Prop := fnExactWeightOfUptoRow.holds Try.pinned (OpenSpec.upto fnExactWeightOfSpec)

/-- 'laws.FnExactIsGreat', WHERE WHAT IT READS IS OF BULK AT MOST 1048576: true; the input reads as it did. -/
def fnExactIsGreatUptoRow : OpenClaim := { program := "ytpopefopmbmgaaa", sum := "4987d7deffa7d586fa3d99a807568118e70c1695df3d2d76274e88fc46458040", func := "loop.example/g00564/laws.FnExactIsGreat", spec := "fnExactIsGreat", apart := false, narrowed := true }
def FnExactIsGreatUptoSaid : Prop := fnExactIsGreatUptoRow.holds Try.pinned (OpenSpec.upto fnExactIsGreatSpec)

end Rows
end Go.Proofs.Ytpopefopmbmgaaa
