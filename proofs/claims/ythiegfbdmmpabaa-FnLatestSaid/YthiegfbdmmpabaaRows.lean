/-
  No cell of these rows narrows 'for every input' (looked for: loops, veiled, ifaces, maps, wideKeys, modest, calm, conditions, laid).
  DERIVED. THE GIVEN ROWS OF THIS SEAT. 11 by the template 'for every input the law returns true; each argument reads behind the call as it read before'; 0 by the template 'total and deterministic' (their statements: YthiegfbdmmpabaaTotals.lean).
  GIVEN WITH THE SEED: the statements are not yours to turn. If you find one false, say at which input.
  Laid BY PROGRAM, IN A SANDBOX (cutbox-rows.mjs): the forced cells as the released guide's own fill.sh prints them over the translation 091cc6548f822032… (all of the seat's roots in one cut). By AI agents, Wed Nov 11 2026. No macro, syntax, notation, axiom, sorry.
-/
import Derived.Test.YthiegfbdmmpabaaChecked
import GoSem.Claim
import GoSem.ClaimJoined
import GoSem.ClaimMapViews
import Derived.JoinedTies
import Derived.KernelRfl
namespace Go.Proofs.Ythiegfbdmmpabaa
/- THE CELL 'sum', in the pinned program and in every row, IS THE sha256 OF THE DUMP (.gsa) THAT YthiegfbdmmpabaaProg.lean LOADS. Nothing in Lean hashes anything: it is a label: what it is worth is what the hold of that sum in a sandbox is worth. -/
noncomputable def Try.pinned : Pinned := { name := "ythiegfbdmmpabaa", sum := "091cc6548f82203255bac83bc4627f346d372734795932642db62a6985d5ed81", checked := Try.checked }
namespace Rows
def none {H : Type} : Left H := { results := [], args := [] }

/-- 'laws.FnExactGoodLinks': WHATEVER THE INPUT: true; the input reads as it did. -/
def fnExactGoodLinksSpec : ChangeSpec := { name := "fnExactGoodLinks", fn := fun _ => fun
  | [d1, d2, d3] => { results := [.lit (.bool true)], args := [d1, d2, d3] }
  | _ => none }
def fnExactGoodLinksRow : OpenClaim := { program := "ythiegfbdmmpabaa", sum := "091cc6548f82203255bac83bc4627f346d372734795932642db62a6985d5ed81", func := "loop.example/g00564/laws.FnExactGoodLinks", spec := "fnExactGoodLinks", unfollowed := true, recurses := true, plainKeys := false, apart := false }
def FnExactGoodLinksSaid : Prop := fnExactGoodLinksRow.holds Try.pinned (OpenSpec.ofChange fnExactGoodLinksSpec)

/-- ITS FALSE NEIGHBOUR: 'it returns false'. Refute it at one input. -/
def fnExactGoodLinksWrong : ChangeSpec := { name := "fnExactGoodLinks", fn := fun _ => fun
  | [d1, d2, d3] => { results := [.lit (.bool false)], args := [d1, d2, d3] }
  | _ => none }
def FnExactGoodLinksWrongFalsely : Prop := fnExactGoodLinksRow.holds Try.pinned (OpenSpec.ofChange fnExactGoodLinksWrong)

/-- 'laws.FnExactWhoLinks': WHATEVER THE INPUT: true; the input reads as it did. -/
def fnExactWhoLinksSpec : ChangeSpec := { name := "fnExactWhoLinks", fn := fun _ => fun
  | [d1, d2, d3, d4, d5] => { results := [.lit (.bool true)], args := [d1, d2, d3, d4, d5] }
  | _ => none }
def fnExactWhoLinksRow : OpenClaim := { program := "ythiegfbdmmpabaa", sum := "091cc6548f82203255bac83bc4627f346d372734795932642db62a6985d5ed81", func := "loop.example/g00564/laws.FnExactWhoLinks", spec := "fnExactWhoLinks", unfollowed := true, recurses := true, plainKeys := false, apart := false }
def FnExactWhoLinksSaid : Prop := fnExactWhoLinksRow.holds Try.pinned (OpenSpec.ofChange fnExactWhoLinksSpec)

/-- ITS FALSE NEIGHBOUR: 'it returns false'. Refute it at one input. -/
def fnExactWhoLinksWrong : ChangeSpec := { name := "fnExactWhoLinks", fn := fun _ => fun
  | [d1, d2, d3, d4, d5] => { results := [.lit (.bool false)], args := [d1, d2, d3, d4, d5] }
  | _ => none }
def FnExactWhoLinksWrongFalsely : Prop := fnExactWhoLinksRow.holds Try.pinned (OpenSpec.ofChange fnExactWhoLinksWrong)

/-- 'laws.FnExactIsLinked': WHATEVER THE INPUT: true; the input reads as it did. -/
def fnExactIsLinkedSpec : ChangeSpec := { name := "fnExactIsLinked", fn := fun _ => fun
  | [d1, d2, d3, d4, d5] => { results := [.lit (.bool true)], args := [d1, d2, d3, d4, d5] }
  | _ => none }
def fnExactIsLinkedRow : OpenClaim := { program := "ythiegfbdmmpabaa", sum := "091cc6548f82203255bac83bc4627f346d372734795932642db62a6985d5ed81", func := "loop.example/g00564/laws.FnExactIsLinked", spec := "fnExactIsLinked", unfollowed := true, recurses := true, plainKeys := false, apart := false }
def FnExactIsLinkedSaid : Prop := fnExactIsLinkedRow.holds Try.pinned (OpenSpec.ofChange fnExactIsLinkedSpec)

/-- ITS FALSE NEIGHBOUR: 'it returns false'. Refute it at one input. -/
def fnExactIsLinkedWrong : ChangeSpec := { name := "fnExactIsLinked", fn := fun _ => fun
  | [d1, d2, d3, d4, d5] => { results := [.lit (.bool false)], args := [d1, d2, d3, d4, d5] }
  | _ => none }
def FnExactIsLinkedWrongFalsely : Prop := fnExactIsLinkedRow.holds Try.pinned (OpenSpec.ofChange fnExactIsLinkedWrong)

/-- 'laws.FnExactJustifiedIn': WHATEVER THE INPUT: true; the input reads as it did. -/
def fnExactJustifiedInSpec : ChangeSpec := { name := "fnExactJustifiedIn", fn := fun _ => fun
  | [d1, d2, d3] => { results := [.lit (.bool true)], args := [d1, d2, d3] }
  | _ => none }
def fnExactJustifiedInRow : OpenClaim := { program := "ythiegfbdmmpabaa", sum := "091cc6548f82203255bac83bc4627f346d372734795932642db62a6985d5ed81", func := "loop.example/g00564/laws.FnExactJustifiedIn", spec := "fnExactJustifiedIn", unfollowed := true, recurses := true, plainKeys := false, apart := false }
def FnExactJustifiedInSaid : Prop := fnExactJustifiedInRow.holds Try.pinned (OpenSpec.ofChange fnExactJustifiedInSpec)

/-- ITS FALSE NEIGHBOUR: 'it returns false'. Refute it at one input. -/
def fnExactJustifiedInWrong : ChangeSpec := { name := "fnExactJustifiedIn", fn := fun _ => fun
  | [d1, d2, d3] => { results := [.lit (.bool false)], args := [d1, d2, d3] }
  | _ => none }
def FnExactJustifiedInWrongFalsely : Prop := fnExactJustifiedInRow.holds Try.pinned (OpenSpec.ofChange fnExactJustifiedInWrong)

/-- 'laws.FnExactFinalIn': WHATEVER THE INPUT: true; the input reads as it did. -/
def fnExactFinalInSpec : ChangeSpec := { name := "fnExactFinalIn", fn := fun _ => fun
  | [d1, d2, d3] => { results := [.lit (.bool true)], args := [d1, d2, d3] }
  | _ => none }
def fnExactFinalInRow : OpenClaim := { program := "ythiegfbdmmpabaa", sum := "091cc6548f82203255bac83bc4627f346d372734795932642db62a6985d5ed81", func := "loop.example/g00564/laws.FnExactFinalIn", spec := "fnExactFinalIn", unfollowed := true, recurses := true, plainKeys := false, apart := false }
def FnExactFinalInSaid : Prop := fnExactFinalInRow.holds Try.pinned (OpenSpec.ofChange fnExactFinalInSpec)

/-- ITS FALSE NEIGHBOUR: 'it returns false'. Refute it at one input. -/
def fnExactFinalInWrong : ChangeSpec := { name := "fnExactFinalIn", fn := fun _ => fun
  | [d1, d2, d3] => { results := [.lit (.bool false)], args := [d1, d2, d3] }
  | _ => none }
def FnExactFinalInWrongFalsely : Prop := fnExactFinalInRow.holds Try.pinned (OpenSpec.ofChange fnExactFinalInWrong)

/-- 'laws.FnExactHighestIn': WHATEVER THE INPUT: true; the input reads as it did. -/
def fnExactHighestInSpec : ChangeSpec := { name := "fnExactHighestIn", fn := fun _ => fun
  | [d1, d2, d3] => { results := [.lit (.bool true)], args := [d1, d2, d3] }
  | _ => none }
def fnExactHighestInRow : OpenClaim := { program := "ythiegfbdmmpabaa", sum := "091cc6548f82203255bac83bc4627f346d372734795932642db62a6985d5ed81", func := "loop.example/g00564/laws.FnExactHighestIn", spec := "fnExactHighestIn", unfollowed := true, recurses := true, plainKeys := false, apart := false }
def FnExactHighestInSaid : Prop := fnExactHighestInRow.holds Try.pinned (OpenSpec.ofChange fnExactHighestInSpec)

/-- ITS FALSE NEIGHBOUR: 'it returns false'. Refute it at one input. -/
def fnExactHighestInWrong : ChangeSpec := { name := "fnExactHighestIn", fn := fun _ => fun
  | [d1, d2, d3] => { results := [.lit (.bool false)], args := [d1, d2, d3] }
  | _ => none }
def FnExactHighestInWrongFalsely : Prop := fnExactHighestInRow.holds Try.pinned (OpenSpec.ofChange fnExactHighestInWrong)

/-- 'laws.FnExactConflictIn': WHATEVER THE INPUT: true; the input reads as it did. -/
def fnExactConflictInSpec : ChangeSpec := { name := "fnExactConflictIn", fn := fun _ => fun
  | [d1, d2, d3] => { results := [.lit (.bool true)], args := [d1, d2, d3] }
  | _ => none }
def fnExactConflictInRow : OpenClaim := { program := "ythiegfbdmmpabaa", sum := "091cc6548f82203255bac83bc4627f346d372734795932642db62a6985d5ed81", func := "loop.example/g00564/laws.FnExactConflictIn", spec := "fnExactConflictIn", unfollowed := true, recurses := true, plainKeys := false, apart := false }
def FnExactConflictInSaid : Prop := fnExactConflictInRow.holds Try.pinned (OpenSpec.ofChange fnExactConflictInSpec)

/-- ITS FALSE NEIGHBOUR: 'it returns false'. Refute it at one input. -/
def fnExactConflictInWrong : ChangeSpec := { name := "fnExactConflictIn", fn := fun _ => fun
  | [d1, d2, d3] => { results := [.lit (.bool false)], args := [d1, d2, d3] }
  | _ => none }
def FnExactConflictInWrongFalsely : Prop := fnExactConflictInRow.holds Try.pinned (OpenSpec.ofChange fnExactConflictInWrong)

/-- 'laws.FnExactOneLink': WHATEVER THE INPUT: true; the input reads as it did. -/
def fnExactOneLinkSpec : ChangeSpec := { name := "fnExactOneLink", fn := fun _ => fun
  | [d1, d2, d3] => { results := [.lit (.bool true)], args := [d1, d2, d3] }
  | _ => none }
def fnExactOneLinkRow : OpenClaim := { program := "ythiegfbdmmpabaa", sum := "091cc6548f82203255bac83bc4627f346d372734795932642db62a6985d5ed81", func := "loop.example/g00564/laws.FnExactOneLink", spec := "fnExactOneLink", unfollowed := true, recurses := true, plainKeys := false, apart := false }
def FnExactOneLinkSaid : Prop := fnExactOneLinkRow.holds Try.pinned (OpenSpec.ofChange fnExactOneLinkSpec)

/-- ITS FALSE NEIGHBOUR: 'it returns false'. Refute it at one input. -/
def fnExactOneLinkWrong : ChangeSpec := { name := "fnExactOneLink", fn := fun _ => fun
  | [d1, d2, d3] => { results := [.lit (.bool false)], args := [d1, d2, d3] }
  | _ => none }
def FnExactOneLinkWrongFalsely : Prop := fnExactOneLinkRow.holds Try.pinned (OpenSpec.ofChange fnExactOneLinkWrong)

/-- 'laws.FnActive': WHATEVER THE INPUT: true; the input reads as it did. -/
def fnActiveSpec : ChangeSpec := { name := "fnActive", fn := fun _ => fun
  | [d1, d2] => { results := [.lit (.bool true)], args := [d1, d2] }
  | _ => none }
def fnActiveRow : OpenClaim := { program := "ythiegfbdmmpabaa", sum := "091cc6548f82203255bac83bc4627f346d372734795932642db62a6985d5ed81", func := "loop.example/g00564/laws.FnActive", spec := "fnActive", inPlace := ["sync/atomic.AddInt64", "sync/atomic.LoadInt64"], unfollowed := true, recurses := true, plainKeys := false, apart := false }
def FnActiveSaid : Prop := fnActiveRow.holds Try.pinned (OpenSpec.ofChange fnActiveSpec)

/-- ITS FALSE NEIGHBOUR: 'it returns false'. Refute it at one input. -/
def fnActiveWrong : ChangeSpec := { name := "fnActive", fn := fun _ => fun
  | [d1, d2] => { results := [.lit (.bool false)], args := [d1, d2] }
  | _ => none }
def FnActiveWrongFalsely : Prop := fnActiveRow.holds Try.pinned (OpenSpec.ofChange fnActiveWrong)

/-- 'laws.FnLatest': WHATEVER THE INPUT: true; the input reads as it did. -/
def fnLatestSpec : ChangeSpec := { name := "fnLatest", fn := fun _ => fun
  | [d1, d2] => { results := [.lit (.bool true)], args := [d1, d2] }
  | _ => none }
def fnLatestRow : OpenClaim := { program := "ythiegfbdmmpabaa", sum := "091cc6548f82203255bac83bc4627f346d372734795932642db62a6985d5ed81", func := "loop.example/g00564/laws.FnLatest", spec := "fnLatest", unfollowed := true, recurses := true, plainKeys := false, apart := false }
def FnLatestSaid : Prop := fnLatestRow.holds Try.pinned (OpenSpec.ofChange fnLatestSpec)

/-- ITS FALSE NEIGHBOUR: 'it returns false'. Refute it at one input. -/
def fnLatestWrong : ChangeSpec := { name := "fnLatest", fn := fun _ => fun
  | [d1, d2] => { results := [.lit (.bool false)], args := [d1, d2] }
  | _ => none }
def FnLatestWrongFalsely : Prop := fnLatestRow.holds Try.pinned (OpenSpec.ofChange fnLatestWrong)

/-- 'laws.FnPools': WHATEVER THE INPUT: true; the input reads as it did. -/
def fnPoolsSpec : ChangeSpec := { name := "fnPools", fn := fun _ => fun
  | [d1, d2] => { results := [.lit (.bool true)], args := [d1, d2] }
  | _ => none }
def fnPoolsRow : OpenClaim := { program := "ythiegfbdmmpabaa", sum := "091cc6548f82203255bac83bc4627f346d372734795932642db62a6985d5ed81", func := "loop.example/g00564/laws.FnPools", spec := "fnPools", unfollowed := true, recurses := true, plainKeys := false, apart := false }
def FnPoolsSaid : Prop := fnPoolsRow.holds Try.pinned (OpenSpec.ofChange fnPoolsSpec)

/-- ITS FALSE NEIGHBOUR: 'it returns false'. Refute it at one input. -/
def fnPoolsWrong : ChangeSpec := { name := "fnPools", fn := fun _ => fun
  | [d1, d2] => { results := [.lit (.bool false)], args := [d1, d2] }
  | _ => none }
def FnPoolsWrongFalsely : Prop := fnPoolsRow.holds Try.pinned (OpenSpec.ofChange fnPoolsWrong)

/- THE SECOND FORM. 'bulk': how many values and letters a reading holds, each counted each time it is reached (what is shared counts as often as it is met; a slice's spare places count too). A statement '..UptoSaid' is the law's where the arguments, and the package variables that the reading takes, are together of bulk at most 1048576: NARROWER than '..Said'. Prove '..Said' where nothing that the law and all that it calls make is longer than what came in: it says more and counts as full. Else prove '..UptoSaid'. A law counts once. -/
mutual
def uptoBulk {H : Type} : DataW H → Nat
  | .lit (.string bytes) => bytes.length + 1
  | .lit _ => 1
  | .nil => 1
  | .ptr d => uptoBulk d + 1
  | .slice elems spare => uptoBulkAll elems + uptoBulkAll spare + 1
  | .agg parts => uptoBulkAll parts + 1
  | .iface _ d => uptoBulk d + 1
  | .map entries => uptoBulkEntries entries + 1
  | .held _ => 1
def uptoBulkAll {H : Type} : List (DataW H) → Nat
  | [] => 0
  | d :: r => uptoBulk d + uptoBulkAll r
def uptoBulkEntries {H : Type} : List (Lit × DataW H) → Nat
  | [] => 0
  | x :: r => uptoBulkEntry x + uptoBulkEntries r
def uptoBulkEntry {H : Type} : Lit × DataW H → Nat
  | (.string bytes, d) => bytes.length + uptoBulk d + 1
  | (_, d) => uptoBulk d + 1
 end
def uptoSmall : (H : Type) → List (DataW H) → Bool := fun _ ds => decide (uptoBulkAll ds ≤ 1048576)
def OpenSpec.upto (s : _root_.Go.ChangeSpec) : _root_.Go.OpenSpec := { _root_.Go.OpenSpec.ofChange s with cond := some uptoSmall }

/-- 'laws.FnExactGoodLinks', WHERE WHAT IT READS IS OF BULK AT MOST 1048576: true; the input reads as it did. -/
def fnExactGoodLinksUptoRow : OpenClaim := { program := "ythiegfbdmmpabaa", sum := "091cc6548f82203255bac83bc4627f346d372734795932642db62a6985d5ed81", func := "loop.example/g00564/laws.FnExactGoodLinks", spec := "fnExactGoodLinks", unfollowed := true, recurses := true, plainKeys := false, apart := false, narrowed := true }
def FnExactGoodLinksUptoSaid : Prop := fnExactGoodLinksUptoRow.holds Try.pinned (OpenSpec.upto fnExactGoodLinksSpec)

/-- 'laws.FnExactWhoLinks', WHERE WHAT IT READS IS OF BULK AT MOST 1048576: true; the input reads as it did. -/
def fnExactWhoLinksUptoRow : OpenClaim := { program := "ythiegfbdmmpabaa", sum := "091cc6548f82203255bac83bc4627f346d372734795932642db62a6985d5ed81", func := "loop.example/g00564/laws.FnExactWhoLinks", spec := "fnExactWhoLinks", unfollowed := true, recurses := true, plainKeys := false, apart := false, narrowed := true }
def FnExactWhoLinksUptoSaid : Prop := fnExactWhoLinksUptoRow.holds Try.pinned (OpenSpec.upto fnExactWhoLinksSpec)

/-- 'laws.FnExactIsLinked', WHERE WHAT IT READS IS OF BULK AT MOST 1048576: true; the input reads as it did. -/
def fnExactIsLinkedUptoRow : OpenClaim := { program := "ythiegfbdmmpabaa", sum := "091cc6548f82203255bac83bc4627f346d372734795932642db62a6985d5ed81", func := "loop.example/g00564/laws.FnExactIsLinked", spec := "fnExactIsLinked", unfollowed := true, recurses := true, plainKeys := false, apart := false, narrowed := true }
def FnExactIsLinkedUptoSaid : Prop := fnExactIsLinkedUptoRow.holds Try.pinned (OpenSpec.upto fnExactIsLinkedSpec)

/-- 'laws.FnExactJustifiedIn', WHERE WHAT IT READS IS OF BULK AT MOST 1048576: true; the input reads as it did. -/
def fnExactJustifiedInUptoRow : OpenClaim := { program := "ythiegfbdmmpabaa", sum := "091cc6548f82203255bac83bc4627f346d372734795932642db62a6985d5ed81", func := "loop.example/g00564/laws.FnExactJustifiedIn", spec := "fnExactJustifiedIn", unfollowed := true, recurses := true, plainKeys := false, apart := false, narrowed := true }
def FnExactJustifiedInUptoSaid : Prop := fnExactJustifiedInUptoRow.holds Try.pinned (OpenSpec.upto fnExactJustifiedInSpec)

/-- 'laws.FnExactFinalIn', WHERE WHAT IT READS IS OF BULK AT MOST 1048576: true; the input reads as it did. -/
def fnExactFinalInUptoRow : OpenClaim := { program := "ythiegfbdmmpabaa", sum := "091cc6548f82203255bac83bc4627f346d372734795932642db62a6985d5ed81", func := "loop.example/g00564/laws.FnExactFinalIn", spec := "fnExactFinalIn", unfollowed := true, recurses := true, plainKeys := false, apart := false, narrowed := true }
def FnExactFinalInUptoSaid : Prop := fnExactFinalInUptoRow.holds Try.pinned (OpenSpec.upto fnExactFinalInSpec)

/-- 'laws.FnExactHighestIn', WHERE WHAT IT READS IS OF BULK AT MOST 1048576: true; the input reads as it did. -/
def fnExactHighestInUptoRow : OpenClaim := { program := "ythiegfbdmmpabaa", sum := "091cc6548f82203255bac83bc4627f346d372734795932642db62a6985d5ed81", func := "loop.example/g00564/laws.FnExactHighestIn", spec := "fnExactHighestIn", unfollowed := true, recurses := true, plainKeys := false, apart := false, narrowed := true }
def FnExactHighestInUptoSaid : Prop := fnExactHighestInUptoRow.holds Try.pinned (OpenSpec.upto fnExactHighestInSpec)

/-- 'laws.FnExactConflictIn', WHERE WHAT IT READS IS OF BULK AT MOST 1048576: true; the input reads as it did. -/
def fnExactConflictInUptoRow : OpenClaim := { program := "ythiegfbdmmpabaa", sum := "091cc6548f82203255bac83bc4627f346d372734795932642db62a6985d5ed81", func := "loop.example/g00564/laws.FnExactConflictIn", spec := "fnExactConflictIn", unfollowed := true, recurses := true, plainKeys := false, apart := false, narrowed := true }
def FnExactConflictInUptoSaid : Prop := fnExactConflictInUptoRow.holds Try.pinned (OpenSpec.upto fnExactConflictInSpec)

/-- 'laws.FnExactOneLink', WHERE WHAT IT READS IS OF BULK AT MOST 1048576: true; the input reads as it did. -/
def fnExactOneLinkUptoRow : OpenClaim := { program := "ythiegfbdmmpabaa", sum := "091cc6548f82203255bac83bc4627f346d372734795932642db62a6985d5ed81", func := "loop.example/g00564/laws.FnExactOneLink", spec := "fnExactOneLink", unfollowed := true, recurses := true, plainKeys := false, apart := false, narrowed := true }
def FnExactOneLinkUptoSaid : Prop := fnExactOneLinkUptoRow.holds Try.pinned (OpenSpec.upto fnExactOneLinkSpec)

/-- 'laws.FnActive', WHERE WHAT IT READS IS OF BULK AT MOST 1048576: true; the input reads as it did. -/
def fnActiveUptoRow : OpenClaim := { program := "ythiegfbdmmpabaa", sum := "091cc6548f82203255bac83bc4627f346d372734795932642db62a6985d5ed81", func := "loop.example/g00564/laws.FnActive", spec := "fnActive", inPlace := ["sync/atomic.AddInt64", "sync/atomic.LoadInt64"], unfollowed := true, recurses := true, plainKeys := false, apart := false, narrowed := true }
def FnActiveUptoSaid : Prop := fnActiveUptoRow.holds Try.pinned (OpenSpec.upto fnActiveSpec)

/-- 'laws.FnLatest', WHERE WHAT IT READS IS OF BULK AT MOST 1048576: true; the input reads as it did. -/
def fnLatestUptoRow : OpenClaim := { program := "ythiegfbdmmpabaa", sum := "091cc6548f82203255bac83bc4627f346d372734795932642db62a6985d5ed81", func := "loop.example/g00564/laws.FnLatest", spec := "fnLatest", unfollowed := true, recurses := true, plainKeys := false, apart := false, narrowed := true }
def FnLatestUptoSaid : Prop := fnLatestUptoRow.holds Try.pinned (OpenSpec.upto fnLatestSpec)

/-- 'laws.FnPools', WHERE WHAT IT READS IS OF BULK AT MOST 1048576: true; the input reads as it did. -/
def fnPoolsUptoRow : OpenClaim := { program := "ythiegfbdmmpabaa", sum := "091cc6548f82203255bac83bc4627f346d372734795932642db62a6985d5ed81", func := "loop.example/g00564/laws.FnPools", spec := "fnPools", unfollowed := true, recurses := true, plainKeys := false, apart := false, narrowed := true }
def FnPoolsUptoSaid : Prop := fnPoolsUptoRow.holds Try.pinned (OpenSpec.upto fnPoolsSpec)

end Rows
end Go.Proofs.Ythiegfbdmmpabaa
