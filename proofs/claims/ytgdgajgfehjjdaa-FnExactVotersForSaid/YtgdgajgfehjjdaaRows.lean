/-
  No cell of these rows narrows 'for every input' (looked for: loops, veiled, ifaces, maps, wideKeys, modest, calm, conditions, laid).
  DERIVED. THE GIVEN ROWS OF THIS SEAT. 11 by the template 'for every input the law returns true; each argument reads behind the call as it read before'; 0 by the template 'total and deterministic' (their statements: YtgdgajgfehjjdaaTotals.lean).
  GIVEN WITH THE SEED: the statements are not yours to turn. If you find one false, say at which input.
  Laid BY PROGRAM, IN A SANDBOX (cutbox-rows.mjs): the forced cells as the released guide's own fill.sh prints them over the translation b5d88d25e8021ac3… (all of the seat's roots in one cut). By AI agents, Wed Nov 11 2026. No macro, syntax, notation, axiom, sorry.
-/
import Derived.Test.YtgdgajgfehjjdaaChecked
import GoSem.Claim
import GoSem.ClaimJoined
import GoSem.ClaimMapViews
import Derived.JoinedTies
import Derived.KernelRfl
namespace Go.Proofs.Ytgdgajgfehjjdaa
/- THE CELL 'sum', in the pinned program and in every row, IS THE sha256 OF THE DUMP (.gsa) THAT YtgdgajgfehjjdaaProg.lean LOADS. Nothing in Lean hashes anything: it is a label: what it is worth is what the hold of that sum in a sandbox is worth. -/
noncomputable def Try.pinned : Pinned := { name := "ytgdgajgfehjjdaa", sum := "b5d88d25e8021ac36f08aead332a3bc2c97e43e8b6dd009cee81e95074b04f9a", checked := Try.checked }
namespace Rows
def none {H : Type} : Left H := { results := [], args := [] }

/-- 'laws.FnExactLatestIn': WHATEVER THE INPUT: true; the input reads as it did. -/
def fnExactLatestInSpec : ChangeSpec := { name := "fnExactLatestIn", fn := fun _ => fun
  | [d1, d2, d3] => { results := [.lit (.bool true)], args := [d1, d2, d3] }
  | _ => none }
def fnExactLatestInRow : OpenClaim := { program := "ytgdgajgfehjjdaa", sum := "b5d88d25e8021ac36f08aead332a3bc2c97e43e8b6dd009cee81e95074b04f9a", func := "loop.example/g00564/laws.FnExactLatestIn", spec := "fnExactLatestIn", recurses := true, plainKeys := false, apart := false }
def FnExactLatestInSaid : Prop := fnExactLatestInRow.holds Try.pinned (OpenSpec.ofChange fnExactLatestInSpec)

/-- ITS FALSE NEIGHBOUR: 'it returns false'. Refute it at one input. -/
def fnExactLatestInWrong : ChangeSpec := { name := "fnExactLatestIn", fn := fun _ => fun
  | [d1, d2, d3] => { results := [.lit (.bool false)], args := [d1, d2, d3] }
  | _ => none }
def FnExactLatestInWrongFalsely : Prop := fnExactLatestInRow.holds Try.pinned (OpenSpec.ofChange fnExactLatestInWrong)

/-- 'laws.FnExactWeightsIn': WHATEVER THE INPUT: true; the input reads as it did. -/
def fnExactWeightsInSpec : ChangeSpec := { name := "fnExactWeightsIn", fn := fun _ => fun
  | [d1, d2, d3] => { results := [.lit (.bool true)], args := [d1, d2, d3] }
  | _ => none }
def fnExactWeightsInRow : OpenClaim := { program := "ytgdgajgfehjjdaa", sum := "b5d88d25e8021ac36f08aead332a3bc2c97e43e8b6dd009cee81e95074b04f9a", func := "loop.example/g00564/laws.FnExactWeightsIn", spec := "fnExactWeightsIn", recurses := true, plainKeys := false, apart := false }
def FnExactWeightsInSaid : Prop := fnExactWeightsInRow.holds Try.pinned (OpenSpec.ofChange fnExactWeightsInSpec)

/-- ITS FALSE NEIGHBOUR: 'it returns false'. Refute it at one input. -/
def fnExactWeightsInWrong : ChangeSpec := { name := "fnExactWeightsIn", fn := fun _ => fun
  | [d1, d2, d3] => { results := [.lit (.bool false)], args := [d1, d2, d3] }
  | _ => none }
def FnExactWeightsInWrongFalsely : Prop := fnExactWeightsInRow.holds Try.pinned (OpenSpec.ofChange fnExactWeightsInWrong)

/-- 'laws.FnExactVotersFor': WHATEVER THE INPUT: true; the input reads as it did. -/
def fnExactVotersForSpec : ChangeSpec := { name := "fnExactVotersFor", fn := fun _ => fun
  | [d1, d2, d3, d4] => { results := [.lit (.bool true)], args := [d1, d2, d3, d4] }
  | _ => none }
def fnExactVotersForRow : OpenClaim := { program := "ytgdgajgfehjjdaa", sum := "b5d88d25e8021ac36f08aead332a3bc2c97e43e8b6dd009cee81e95074b04f9a", func := "loop.example/g00564/laws.FnExactVotersFor", spec := "fnExactVotersFor", unfollowed := true, recurses := true, plainKeys := false, apart := false }
def FnExactVotersForSaid : Prop := fnExactVotersForRow.holds Try.pinned (OpenSpec.ofChange fnExactVotersForSpec)

/-- ITS FALSE NEIGHBOUR: 'it returns false'. Refute it at one input. -/
def fnExactVotersForWrong : ChangeSpec := { name := "fnExactVotersFor", fn := fun _ => fun
  | [d1, d2, d3, d4] => { results := [.lit (.bool false)], args := [d1, d2, d3, d4] }
  | _ => none }
def FnExactVotersForWrongFalsely : Prop := fnExactVotersForRow.holds Try.pinned (OpenSpec.ofChange fnExactVotersForWrong)

/-- 'laws.FnExactPoolOf': WHATEVER THE INPUT: true; the input reads as it did. -/
def fnExactPoolOfSpec : ChangeSpec := { name := "fnExactPoolOf", fn := fun _ => fun
  | [d1, d2, d3] => { results := [.lit (.bool true)], args := [d1, d2, d3] }
  | _ => none }
def fnExactPoolOfRow : OpenClaim := { program := "ytgdgajgfehjjdaa", sum := "b5d88d25e8021ac36f08aead332a3bc2c97e43e8b6dd009cee81e95074b04f9a", func := "loop.example/g00564/laws.FnExactPoolOf", spec := "fnExactPoolOf", unfollowed := true, recurses := true, plainKeys := false, apart := false }
def FnExactPoolOfSaid : Prop := fnExactPoolOfRow.holds Try.pinned (OpenSpec.ofChange fnExactPoolOfSpec)

/-- ITS FALSE NEIGHBOUR: 'it returns false'. Refute it at one input. -/
def fnExactPoolOfWrong : ChangeSpec := { name := "fnExactPoolOf", fn := fun _ => fun
  | [d1, d2, d3] => { results := [.lit (.bool false)], args := [d1, d2, d3] }
  | _ => none }
def FnExactPoolOfWrongFalsely : Prop := fnExactPoolOfRow.holds Try.pinned (OpenSpec.ofChange fnExactPoolOfWrong)

/-- 'laws.FnExactPutVote': WHATEVER THE INPUT: true; the input reads as it did. -/
def fnExactPutVoteSpec : ChangeSpec := { name := "fnExactPutVote", fn := fun _ => fun
  | [d1, d2, d3, d4] => { results := [.lit (.bool true)], args := [d1, d2, d3, d4] }
  | _ => none }
def fnExactPutVoteRow : OpenClaim := { program := "ytgdgajgfehjjdaa", sum := "b5d88d25e8021ac36f08aead332a3bc2c97e43e8b6dd009cee81e95074b04f9a", func := "loop.example/g00564/laws.FnExactPutVote", spec := "fnExactPutVote", unfollowed := true, recurses := true, plainKeys := false, apart := false }
def FnExactPutVoteSaid : Prop := fnExactPutVoteRow.holds Try.pinned (OpenSpec.ofChange fnExactPutVoteSpec)

/-- ITS FALSE NEIGHBOUR: 'it returns false'. Refute it at one input. -/
def fnExactPutVoteWrong : ChangeSpec := { name := "fnExactPutVote", fn := fun _ => fun
  | [d1, d2, d3, d4] => { results := [.lit (.bool false)], args := [d1, d2, d3, d4] }
  | _ => none }
def FnExactPutVoteWrongFalsely : Prop := fnExactPutVoteRow.holds Try.pinned (OpenSpec.ofChange fnExactPutVoteWrong)

/-- 'laws.FnExactMergePools': WHATEVER THE INPUT: true; the input reads as it did. -/
def fnExactMergePoolsSpec : ChangeSpec := { name := "fnExactMergePools", fn := fun _ => fun
  | [d1, d2, d3, d4] => { results := [.lit (.bool true)], args := [d1, d2, d3, d4] }
  | _ => none }
def fnExactMergePoolsRow : OpenClaim := { program := "ytgdgajgfehjjdaa", sum := "b5d88d25e8021ac36f08aead332a3bc2c97e43e8b6dd009cee81e95074b04f9a", func := "loop.example/g00564/laws.FnExactMergePools", spec := "fnExactMergePools", unfollowed := true, recurses := true, plainKeys := false, apart := false }
def FnExactMergePoolsSaid : Prop := fnExactMergePoolsRow.holds Try.pinned (OpenSpec.ofChange fnExactMergePoolsSpec)

/-- ITS FALSE NEIGHBOUR: 'it returns false'. Refute it at one input. -/
def fnExactMergePoolsWrong : ChangeSpec := { name := "fnExactMergePools", fn := fun _ => fun
  | [d1, d2, d3, d4] => { results := [.lit (.bool false)], args := [d1, d2, d3, d4] }
  | _ => none }
def FnExactMergePoolsWrongFalsely : Prop := fnExactMergePoolsRow.holds Try.pinned (OpenSpec.ofChange fnExactMergePoolsWrong)

/-- 'laws.FnPools': WHATEVER THE INPUT: true; the input reads as it did. -/
def fnPoolsSpec : ChangeSpec := { name := "fnPools", fn := fun _ => fun
  | [d1, d2] => { results := [.lit (.bool true)], args := [d1, d2] }
  | _ => none }
def fnPoolsRow : OpenClaim := { program := "ytgdgajgfehjjdaa", sum := "b5d88d25e8021ac36f08aead332a3bc2c97e43e8b6dd009cee81e95074b04f9a", func := "loop.example/g00564/laws.FnPools", spec := "fnPools", unfollowed := true, recurses := true, plainKeys := false, apart := false }
def FnPoolsSaid : Prop := fnPoolsRow.holds Try.pinned (OpenSpec.ofChange fnPoolsSpec)

/-- ITS FALSE NEIGHBOUR: 'it returns false'. Refute it at one input. -/
def fnPoolsWrong : ChangeSpec := { name := "fnPools", fn := fun _ => fun
  | [d1, d2] => { results := [.lit (.bool false)], args := [d1, d2] }
  | _ => none }
def FnPoolsWrongFalsely : Prop := fnPoolsRow.holds Try.pinned (OpenSpec.ofChange fnPoolsWrong)

/-- 'laws.FnLatest': WHATEVER THE INPUT: true; the input reads as it did. -/
def fnLatestSpec : ChangeSpec := { name := "fnLatest", fn := fun _ => fun
  | [d1, d2] => { results := [.lit (.bool true)], args := [d1, d2] }
  | _ => none }
def fnLatestRow : OpenClaim := { program := "ytgdgajgfehjjdaa", sum := "b5d88d25e8021ac36f08aead332a3bc2c97e43e8b6dd009cee81e95074b04f9a", func := "loop.example/g00564/laws.FnLatest", spec := "fnLatest", unfollowed := true, recurses := true, plainKeys := false, apart := false }
def FnLatestSaid : Prop := fnLatestRow.holds Try.pinned (OpenSpec.ofChange fnLatestSpec)

/-- ITS FALSE NEIGHBOUR: 'it returns false'. Refute it at one input. -/
def fnLatestWrong : ChangeSpec := { name := "fnLatest", fn := fun _ => fun
  | [d1, d2] => { results := [.lit (.bool false)], args := [d1, d2] }
  | _ => none }
def FnLatestWrongFalsely : Prop := fnLatestRow.holds Try.pinned (OpenSpec.ofChange fnLatestWrong)

/-- 'laws.FnExactHeadOf': WHATEVER THE INPUT: true; the input reads as it did. -/
def fnExactHeadOfSpec : ChangeSpec := { name := "fnExactHeadOf", fn := fun _ => fun
  | [d1, d2, d3] => { results := [.lit (.bool true)], args := [d1, d2, d3] }
  | _ => none }
def fnExactHeadOfRow : OpenClaim := { program := "ytgdgajgfehjjdaa", sum := "b5d88d25e8021ac36f08aead332a3bc2c97e43e8b6dd009cee81e95074b04f9a", func := "loop.example/g00564/laws.FnExactHeadOf", spec := "fnExactHeadOf", recurses := true, plainKeys := false, apart := false }
def FnExactHeadOfSaid : Prop := fnExactHeadOfRow.holds Try.pinned (OpenSpec.ofChange fnExactHeadOfSpec)

/-- ITS FALSE NEIGHBOUR: 'it returns false'. Refute it at one input. -/
def fnExactHeadOfWrong : ChangeSpec := { name := "fnExactHeadOf", fn := fun _ => fun
  | [d1, d2, d3] => { results := [.lit (.bool false)], args := [d1, d2, d3] }
  | _ => none }
def FnExactHeadOfWrongFalsely : Prop := fnExactHeadOfRow.holds Try.pinned (OpenSpec.ofChange fnExactHeadOfWrong)

/-- 'laws.FnExactSafeBlocks': WHATEVER THE INPUT: true; the input reads as it did. -/
def fnExactSafeBlocksSpec : ChangeSpec := { name := "fnExactSafeBlocks", fn := fun _ => fun
  | [d1, d2, d3] => { results := [.lit (.bool true)], args := [d1, d2, d3] }
  | _ => none }
def fnExactSafeBlocksRow : OpenClaim := { program := "ytgdgajgfehjjdaa", sum := "b5d88d25e8021ac36f08aead332a3bc2c97e43e8b6dd009cee81e95074b04f9a", func := "loop.example/g00564/laws.FnExactSafeBlocks", spec := "fnExactSafeBlocks", unfollowed := true, recurses := true, plainKeys := false, apart := false }
def FnExactSafeBlocksSaid : Prop := fnExactSafeBlocksRow.holds Try.pinned (OpenSpec.ofChange fnExactSafeBlocksSpec)

/-- ITS FALSE NEIGHBOUR: 'it returns false'. Refute it at one input. -/
def fnExactSafeBlocksWrong : ChangeSpec := { name := "fnExactSafeBlocks", fn := fun _ => fun
  | [d1, d2, d3] => { results := [.lit (.bool false)], args := [d1, d2, d3] }
  | _ => none }
def FnExactSafeBlocksWrongFalsely : Prop := fnExactSafeBlocksRow.holds Try.pinned (OpenSpec.ofChange fnExactSafeBlocksWrong)

/-- 'laws.FnHeads': WHATEVER THE INPUT: true; the input reads as it did. -/
def fnHeadsSpec : ChangeSpec := { name := "fnHeads", fn := fun _ => fun
  | [d1, d2] => { results := [.lit (.bool true)], args := [d1, d2] }
  | _ => none }
def fnHeadsRow : OpenClaim := { program := "ytgdgajgfehjjdaa", sum := "b5d88d25e8021ac36f08aead332a3bc2c97e43e8b6dd009cee81e95074b04f9a", func := "loop.example/g00564/laws.FnHeads", spec := "fnHeads", unfollowed := true, recurses := true, plainKeys := false, apart := false }
def FnHeadsSaid : Prop := fnHeadsRow.holds Try.pinned (OpenSpec.ofChange fnHeadsSpec)

/-- ITS FALSE NEIGHBOUR: 'it returns false'. Refute it at one input. -/
def fnHeadsWrong : ChangeSpec := { name := "fnHeads", fn := fun _ => fun
  | [d1, d2] => { results := [.lit (.bool false)], args := [d1, d2] }
  | _ => none }
def FnHeadsWrongFalsely : Prop := fnHeadsRow.holds Try.pinned (OpenSpec.ofChange fnHeadsWrong)

/- THE SECOND FORM. 'bulk': how many values and letters a reading holds, each counted each time it is reached (what is shared counts as often as it is met; a slice's spare places count too). A statement '..UptoSaid' is the law's where the arguments, and the package variables that the reading takes, are together of bulk at most 1048576: NARROWER than '..Said'. Prove '..Said' where nothing that the law and all that it calls make is longer than what came in: it says more and counts as full. Else prove '..UptoSaid'. A law counts once. -/
mutual
def uptoBulk {H : Type} : DataW H → Nat
  | .lit (.string bytes) => bytes.length + 1
  | .lit _ => 1
  | .nil => 1
  | .ptr d => uptoBulk d + 1
  | .slice elems spare => uptoBulkAll elems + uptoBulkAll spare + 1
  | .agg parts => uptoBulkAll parts + 1
  | .iface _ d => uptoBulk d + 1
  | .map entries => uptoBulkEntries entries + 1
  | .held _ => 1
def uptoBulkAll {H : Type} : List (DataW H) → Nat
  | [] => 0
  | d :: r => uptoBulk d + uptoBulkAll r
def uptoBulkEntries {H : Type} : List (Lit × DataW H) → Nat
  | [] => 0
  | x :: r => uptoBulkEntry x + uptoBulkEntries r
def uptoBulkEntry {H : Type} : Lit × DataW H → Nat
  | (.string bytes, d) => bytes.length + uptoBulk d + 1
  | (_, d) => uptoBulk d + 1
 end
def uptoSmall : (H : Type) → List (DataW H) → Bool := fun _ ds => decide (uptoBulkAll ds ≤ 1048576)
def OpenSpec.upto (s : _root_.Go.ChangeSpec) : _root_.Go.OpenSpec := { _root_.Go.OpenSpec.ofChange s with cond := some uptoSmall }

/-- 'laws.FnExactLatestIn', WHERE WHAT IT READS IS OF BULK AT MOST 1048576: true; the input reads as it did. -/
def fnExactLatestInUptoRow : OpenClaim := { program := "ytgdgajgfehjjdaa", sum := "b5d88d25e8021ac36f08aead332a3bc2c97e43e8b6dd009cee81e95074b04f9a", func := "loop.example/g00564/laws.FnExactLatestIn", spec := "fnExactLatestIn", recurses := true, plainKeys := false, apart := false, narrowed := true }
def FnExactLatestInUptoSaid : Prop := fnExactLatestInUptoRow.holds Try.pinned (OpenSpec.upto fnExactLatestInSpec)

/-- 'laws.FnExactWeightsIn', WHERE WHAT IT READS IS OF BULK AT MOST 1048576: true; the input reads as it did. -/
def fnExactWeightsInUptoRow : OpenClaim := { program := "ytgdgajgfehjjdaa", sum := "b5d88d25e8021ac36f08aead332a3bc2c97e43e8b6dd009cee81e95074b04f9a", func := "loop.example/g00564/laws.FnExactWeightsIn", spec := "fnExactWeightsIn", recurses := true, plainKeys := false, apart := false, narrowed := true }
def FnExactWeightsInUptoSaid : Prop := fnExactWeightsInUptoRow.holds Try.pinned (OpenSpec.upto fnExactWeightsInSpec)

/-- 'laws.FnExactVotersFor', WHERE WHAT IT READS IS OF BULK AT MOST 1048576: true; the input reads as it did. -/
def fnExactVotersForUptoRow : OpenClaim := { program := "ytgdgajgfehjjdaa", sum := "b5d88d25e8021ac36f08aead332a3bc2c97e43e8b6dd009cee81e95074b04f9a", func := "loop.example/g00564/laws.FnExactVotersFor", spec := "fnExactVotersFor", unfollowed := true, recurses := true, plainKeys := false, apart := false, narrowed := true }
def FnExactVotersForUptoSaid : Prop := fnExactVotersForUptoRow.holds Try.pinned (OpenSpec.upto fnExactVotersForSpec)

/-- 'laws.FnExactPoolOf', WHERE WHAT IT READS IS OF BULK AT MOST 1048576: true; the input reads as it did. -/
def fnExactPoolOfUptoRow : OpenClaim := { program := "ytgdgajgfehjjdaa", sum := "b5d88d25e8021ac36f08aead332a3bc2c97e43e8b6dd009cee81e95074b04f9a", func := "loop.example/g00564/laws.FnExactPoolOf", spec := "fnExactPoolOf", unfollowed := true, recurses := true, plainKeys := false, apart := false, narrowed := true }
def FnExactPoolOfUptoSaid : Prop := fnExactPoolOfUptoRow.holds Try.pinned (OpenSpec.upto fnExactPoolOfSpec)

/-- 'laws.FnExactPutVote', WHERE WHAT IT READS IS OF BULK AT MOST 1048576: true; the input reads as it did. -/
def fnExactPutVoteUptoRow : OpenClaim := { program := "ytgdgajgfehjjdaa", sum := "b5d88d25e8021ac36f08aead332a3bc2c97e43e8b6dd009cee81e95074b04f9a", func := "loop.example/g00564/laws.FnExactPutVote", spec := "fnExactPutVote", unfollowed := true, recurses := true, plainKeys := false, apart := false, narrowed := true }
def FnExactPutVoteUptoSaid : Prop := fnExactPutVoteUptoRow.holds Try.pinned (OpenSpec.upto fnExactPutVoteSpec)

/-- 'laws.FnExactMergePools', WHERE WHAT IT READS IS OF BULK AT MOST 1048576: true; the input reads as it did. -/
def fnExactMergePoolsUptoRow : OpenClaim := { program := "ytgdgajgfehjjdaa", sum := "b5d88d25e8021ac36f08aead332a3bc2c97e43e8b6dd009cee81e95074b04f9a", func := "loop.example/g00564/laws.FnExactMergePools", spec := "fnExactMergePools", unfollowed := true, recurses := true, plainKeys := false, apart := false, narrowed := true }
def FnExactMergePoolsUptoSaid : Prop := fnExactMergePoolsUptoRow.holds Try.pinned (OpenSpec.upto fnExactMergePoolsSpec)

/-- 'laws.FnPools', WHERE WHAT IT READS IS OF BULK AT MOST 1048576: true; the input reads as it did. -/
def fnPoolsUptoRow : OpenClaim := { program := "ytgdgajgfehjjdaa", sum := "b5d88d25e8021ac36f08aead332a3bc2c97e43e8b6dd009cee81e95074b04f9a", func := "loop.example/g00564/laws.FnPools", spec := "fnPools", unfollowed := true, recurses := true, plainKeys := false, apart := false, narrowed := true }
def FnPoolsUptoSaid : Prop := fnPoolsUptoRow.holds Try.pinned (OpenSpec.upto fnPoolsSpec)

/-- 'laws.FnLatest', WHERE WHAT IT READS IS OF BULK AT MOST 1048576: true; the input reads as it did. -/
def fnLatestUptoRow : OpenClaim := { program := "ytgdgajgfehjjdaa", sum := "b5d88d25e8021ac36f08aead332a3bc2c97e43e8b6dd009cee81e95074b04f9a", func := "loop.example/g00564/laws.FnLatest", spec := "fnLatest", unfollowed := true, recurses := true, plainKeys := false, apart := false, narrowed := true }
def FnLatestUptoSaid : Prop := fnLatestUptoRow.holds Try.pinned (OpenSpec.upto fnLatestSpec)

/-- 'laws.FnExactHeadOf', WHERE WHAT IT READS IS OF BULK AT MOST 1048576: true; the input reads as it did. -/
def fnExactHeadOfUptoRow : OpenClaim := { program := "ytgdgajgfehjjdaa", sum := "b5d88d25e8021ac36f08aead332a3bc2c97e43e8b6dd009cee81e95074b04f9a", func := "loop.example/g00564/laws.FnExactHeadOf", spec := "fnExactHeadOf", recurses := true, plainKeys := false, apart := false, narrowed := true }
def FnExactHeadOfUptoSaid : Prop := fnExactHeadOfUptoRow.holds Try.pinned (OpenSpec.upto fnExactHeadOfSpec)

/-- 'laws.FnExactSafeBlocks', WHERE WHAT IT READS IS OF BULK AT MOST 1048576: true; the input reads as it did. -/
def fnExactSafeBlocksUptoRow : OpenClaim := { program := "ytgdgajgfehjjdaa", sum := "b5d88d25e8021ac36f08aead332a3bc2c97e43e8b6dd009cee81e95074b04f9a", func := "loop.example/g00564/laws.FnExactSafeBlocks", spec := "fnExactSafeBlocks", unfollowed := true, recurses := true, plainKeys := false, apart := false, narrowed := true }
def FnExactSafeBlocksUptoSaid : Prop := fnExactSafeBlocksUptoRow.holds Try.pinned (OpenSpec.upto fnExactSafeBlocksSpec)

/-- 'laws.FnHeads', WHERE WHAT IT READS IS OF BULK AT MOST 1048576: true; the input reads as it did. -/
def fnHeadsUptoRow : OpenClaim := { program := "ytgdgajgfehjjdaa", sum := "b5d88d25e8021ac36f08aead332a3bc2c97e43e8b6dd009cee81e95074b04f9a", func := "loop.example/g00564/laws.FnHeads", spec := "fnHeads", unfollowed := true, recurses := true, plainKeys := false, apart := false, narrowed := true }
def FnHeadsUptoSaid : Prop := fnHeadsUptoRow.holds Try.pinned (OpenSpec.upto fnHeadsSpec)

end Rows
end Go.Proofs.Ytgdgajgfehjjdaa
