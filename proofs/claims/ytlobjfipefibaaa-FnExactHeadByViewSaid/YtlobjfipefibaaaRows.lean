/-
  No cell of these rows narrows 'for every input' (looked for: loops, veiled, ifaces, maps, wideKeys, modest, calm, conditions, laid).
  DERIVED. THE GIVEN ROWS OF THIS SEAT. 11 by the template 'for every input the law returns true; each argument reads behind the call as it read before'; 0 by the template 'total and deterministic' (their statements: YtlobjfipefibaaaTotals.lean).
  GIVEN WITH THE SEED: the statements are not yours to turn. If you find one false, say at which input.
  Laid BY PROGRAM, IN A SANDBOX (cutbox-rows.mjs): the forced cells as the released guide's own fill.sh prints them over the translation d34aea53135534e4… (all of the seat's roots in one cut). By AI agents, Wed Nov 11 2026. No macro, syntax, notation, axiom, sorry.
-/
import Derived.Test.YtlobjfipefibaaaChecked
import GoSem.Claim
import GoSem.ClaimJoined
import GoSem.ClaimMapViews
import Derived.JoinedTies
import Derived.KernelRfl
namespace Go.Proofs.Ytlobjfipefibaaa
/- THE CELL 'sum', in the pinned program and in every row, IS THE sha256 OF THE DUMP (.gsa) THAT YtlobjfipefibaaaProg.lean LOADS. Nothing in Lean hashes anything: it is a label: what it is worth is what the hold of that sum in a sandbox is worth. -/
noncomputable def Try.pinned : Pinned := { name := "ytlobjfipefibaaa", sum := "d34aea53135534e4d9fddf7398f3c97531fcb47491d14d31251831c42404e6cf", checked := Try.checked }
namespace Rows
def none {H : Type} : Left H := { results := [], args := [] }

/-- 'laws.FnExactPoolOf': WHATEVER THE INPUT: true; the input reads as it did. -/
def fnExactPoolOfSpec : ChangeSpec := { name := "fnExactPoolOf", fn := fun _ => fun
  | [d1, d2, d3] => { results := [.lit (.bool true)], args := [d1, d2, d3] }
  | _ => none }
def fnExactPoolOfRow : OpenClaim := { program := "ytlobjfipefibaaa", sum := "d34aea53135534e4d9fddf7398f3c97531fcb47491d14d31251831c42404e6cf", func := "loop.example/g00564/laws.FnExactPoolOf", spec := "fnExactPoolOf", unfollowed := true, recurses := true, plainKeys := false, apart := false }
def FnExactPoolOfSaid : Prop := fnExactPoolOfRow.holds Try.pinned (OpenSpec.ofChange fnExactPoolOfSpec)

/-- ITS FALSE NEIGHBOUR: 'it returns false'. Refute it at one input. -/
def fnExactPoolOfWrong : ChangeSpec := { name := "fnExactPoolOf", fn := fun _ => fun
  | [d1, d2, d3] => { results := [.lit (.bool false)], args := [d1, d2, d3] }
  | _ => none }
def FnExactPoolOfWrongFalsely : Prop := fnExactPoolOfRow.holds Try.pinned (OpenSpec.ofChange fnExactPoolOfWrong)

/-- 'laws.FnExactPutVote': WHATEVER THE INPUT: true; the input reads as it did. -/
def fnExactPutVoteSpec : ChangeSpec := { name := "fnExactPutVote", fn := fun _ => fun
  | [d1, d2, d3, d4] => { results := [.lit (.bool true)], args := [d1, d2, d3, d4] }
  | _ => none }
def fnExactPutVoteRow : OpenClaim := { program := "ytlobjfipefibaaa", sum := "d34aea53135534e4d9fddf7398f3c97531fcb47491d14d31251831c42404e6cf", func := "loop.example/g00564/laws.FnExactPutVote", spec := "fnExactPutVote", unfollowed := true, recurses := true, plainKeys := false, apart := false }
def FnExactPutVoteSaid : Prop := fnExactPutVoteRow.holds Try.pinned (OpenSpec.ofChange fnExactPutVoteSpec)

/-- ITS FALSE NEIGHBOUR: 'it returns false'. Refute it at one input. -/
def fnExactPutVoteWrong : ChangeSpec := { name := "fnExactPutVote", fn := fun _ => fun
  | [d1, d2, d3, d4] => { results := [.lit (.bool false)], args := [d1, d2, d3, d4] }
  | _ => none }
def FnExactPutVoteWrongFalsely : Prop := fnExactPutVoteRow.holds Try.pinned (OpenSpec.ofChange fnExactPutVoteWrong)

/-- 'laws.FnExactMergePools': WHATEVER THE INPUT: true; the input reads as it did. -/
def fnExactMergePoolsSpec : ChangeSpec := { name := "fnExactMergePools", fn := fun _ => fun
  | [d1, d2, d3, d4] => { results := [.lit (.bool true)], args := [d1, d2, d3, d4] }
  | _ => none }
def fnExactMergePoolsRow : OpenClaim := { program := "ytlobjfipefibaaa", sum := "d34aea53135534e4d9fddf7398f3c97531fcb47491d14d31251831c42404e6cf", func := "loop.example/g00564/laws.FnExactMergePools", spec := "fnExactMergePools", unfollowed := true, recurses := true, plainKeys := false, apart := false }
def FnExactMergePoolsSaid : Prop := fnExactMergePoolsRow.holds Try.pinned (OpenSpec.ofChange fnExactMergePoolsSpec)

/-- ITS FALSE NEIGHBOUR: 'it returns false'. Refute it at one input. -/
def fnExactMergePoolsWrong : ChangeSpec := { name := "fnExactMergePools", fn := fun _ => fun
  | [d1, d2, d3, d4] => { results := [.lit (.bool false)], args := [d1, d2, d3, d4] }
  | _ => none }
def FnExactMergePoolsWrongFalsely : Prop := fnExactMergePoolsRow.holds Try.pinned (OpenSpec.ofChange fnExactMergePoolsWrong)

/-- 'laws.FnExactGoodView': WHATEVER THE INPUT: true; the input reads as it did. -/
def fnExactGoodViewSpec : ChangeSpec := { name := "fnExactGoodView", fn := fun _ => fun
  | [d1, d2, d3] => { results := [.lit (.bool true)], args := [d1, d2, d3] }
  | _ => none }
def fnExactGoodViewRow : OpenClaim := { program := "ytlobjfipefibaaa", sum := "d34aea53135534e4d9fddf7398f3c97531fcb47491d14d31251831c42404e6cf", func := "loop.example/g00564/laws.FnExactGoodView", spec := "fnExactGoodView", plainKeys := false, apart := false }
def FnExactGoodViewSaid : Prop := fnExactGoodViewRow.holds Try.pinned (OpenSpec.ofChange fnExactGoodViewSpec)

/-- ITS FALSE NEIGHBOUR: 'it returns false'. Refute it at one input. -/
def fnExactGoodViewWrong : ChangeSpec := { name := "fnExactGoodView", fn := fun _ => fun
  | [d1, d2, d3] => { results := [.lit (.bool false)], args := [d1, d2, d3] }
  | _ => none }
def FnExactGoodViewWrongFalsely : Prop := fnExactGoodViewRow.holds Try.pinned (OpenSpec.ofChange fnExactGoodViewWrong)

/-- 'laws.FnExactSeeVotes': WHATEVER THE INPUT: true; the input reads as it did. -/
def fnExactSeeVotesSpec : ChangeSpec := { name := "fnExactSeeVotes", fn := fun _ => fun
  | [d1, d2, d3, d4] => { results := [.lit (.bool true)], args := [d1, d2, d3, d4] }
  | _ => none }
def fnExactSeeVotesRow : OpenClaim := { program := "ytlobjfipefibaaa", sum := "d34aea53135534e4d9fddf7398f3c97531fcb47491d14d31251831c42404e6cf", func := "loop.example/g00564/laws.FnExactSeeVotes", spec := "fnExactSeeVotes", unfollowed := true, recurses := true, plainKeys := false, apart := false }
def FnExactSeeVotesSaid : Prop := fnExactSeeVotesRow.holds Try.pinned (OpenSpec.ofChange fnExactSeeVotesSpec)

/-- ITS FALSE NEIGHBOUR: 'it returns false'. Refute it at one input. -/
def fnExactSeeVotesWrong : ChangeSpec := { name := "fnExactSeeVotes", fn := fun _ => fun
  | [d1, d2, d3, d4] => { results := [.lit (.bool false)], args := [d1, d2, d3, d4] }
  | _ => none }
def FnExactSeeVotesWrongFalsely : Prop := fnExactSeeVotesRow.holds Try.pinned (OpenSpec.ofChange fnExactSeeVotesWrong)

/-- 'laws.FnExactFreezeView': WHATEVER THE INPUT: true; the input reads as it did. -/
def fnExactFreezeViewSpec : ChangeSpec := { name := "fnExactFreezeView", fn := fun _ => fun
  | [d1, d2, d3] => { results := [.lit (.bool true)], args := [d1, d2, d3] }
  | _ => none }
def fnExactFreezeViewRow : OpenClaim := { program := "ytlobjfipefibaaa", sum := "d34aea53135534e4d9fddf7398f3c97531fcb47491d14d31251831c42404e6cf", func := "loop.example/g00564/laws.FnExactFreezeView", spec := "fnExactFreezeView", plainKeys := false, apart := false }
def FnExactFreezeViewSaid : Prop := fnExactFreezeViewRow.holds Try.pinned (OpenSpec.ofChange fnExactFreezeViewSpec)

/-- ITS FALSE NEIGHBOUR: 'it returns false'. Refute it at one input. -/
def fnExactFreezeViewWrong : ChangeSpec := { name := "fnExactFreezeView", fn := fun _ => fun
  | [d1, d2, d3] => { results := [.lit (.bool false)], args := [d1, d2, d3] }
  | _ => none }
def FnExactFreezeViewWrongFalsely : Prop := fnExactFreezeViewRow.holds Try.pinned (OpenSpec.ofChange fnExactFreezeViewWrong)

/-- 'laws.FnExactMergeView': WHATEVER THE INPUT: true; the input reads as it did. -/
def fnExactMergeViewSpec : ChangeSpec := { name := "fnExactMergeView", fn := fun _ => fun
  | [d1, d2, d3, d4] => { results := [.lit (.bool true)], args := [d1, d2, d3, d4] }
  | _ => none }
def fnExactMergeViewRow : OpenClaim := { program := "ytlobjfipefibaaa", sum := "d34aea53135534e4d9fddf7398f3c97531fcb47491d14d31251831c42404e6cf", func := "loop.example/g00564/laws.FnExactMergeView", spec := "fnExactMergeView", unfollowed := true, recurses := true, plainKeys := false, apart := false }
def FnExactMergeViewSaid : Prop := fnExactMergeViewRow.holds Try.pinned (OpenSpec.ofChange fnExactMergeViewSpec)

/-- ITS FALSE NEIGHBOUR: 'it returns false'. Refute it at one input. -/
def fnExactMergeViewWrong : ChangeSpec := { name := "fnExactMergeView", fn := fun _ => fun
  | [d1, d2, d3, d4] => { results := [.lit (.bool false)], args := [d1, d2, d3, d4] }
  | _ => none }
def FnExactMergeViewWrongFalsely : Prop := fnExactMergeViewRow.holds Try.pinned (OpenSpec.ofChange fnExactMergeViewWrong)

/-- 'laws.FnExactHeadByView': WHATEVER THE INPUT: true; the input reads as it did. -/
def fnExactHeadByViewSpec : ChangeSpec := { name := "fnExactHeadByView", fn := fun _ => fun
  | [d1, d2, d3] => { results := [.lit (.bool true)], args := [d1, d2, d3] }
  | _ => none }
def fnExactHeadByViewRow : OpenClaim := { program := "ytlobjfipefibaaa", sum := "d34aea53135534e4d9fddf7398f3c97531fcb47491d14d31251831c42404e6cf", func := "loop.example/g00564/laws.FnExactHeadByView", spec := "fnExactHeadByView", recurses := true, plainKeys := false, apart := false }
def FnExactHeadByViewSaid : Prop := fnExactHeadByViewRow.holds Try.pinned (OpenSpec.ofChange fnExactHeadByViewSpec)

/-- ITS FALSE NEIGHBOUR: 'it returns false'. Refute it at one input. -/
def fnExactHeadByViewWrong : ChangeSpec := { name := "fnExactHeadByView", fn := fun _ => fun
  | [d1, d2, d3] => { results := [.lit (.bool false)], args := [d1, d2, d3] }
  | _ => none }
def FnExactHeadByViewWrongFalsely : Prop := fnExactHeadByViewRow.holds Try.pinned (OpenSpec.ofChange fnExactHeadByViewWrong)

/-- 'laws.FnExactIsWithin': WHATEVER THE INPUT: true; the input reads as it did. -/
def fnExactIsWithinSpec : ChangeSpec := { name := "fnExactIsWithin", fn := fun _ => fun
  | [d1, d2, d3, d4] => { results := [.lit (.bool true)], args := [d1, d2, d3, d4] }
  | _ => none }
def fnExactIsWithinRow : OpenClaim := { program := "ytlobjfipefibaaa", sum := "d34aea53135534e4d9fddf7398f3c97531fcb47491d14d31251831c42404e6cf", func := "loop.example/g00564/laws.FnExactIsWithin", spec := "fnExactIsWithin", plainKeys := false, apart := false }
def FnExactIsWithinSaid : Prop := fnExactIsWithinRow.holds Try.pinned (OpenSpec.ofChange fnExactIsWithinSpec)

/-- ITS FALSE NEIGHBOUR: 'it returns false'. Refute it at one input. -/
def fnExactIsWithinWrong : ChangeSpec := { name := "fnExactIsWithin", fn := fun _ => fun
  | [d1, d2, d3, d4] => { results := [.lit (.bool false)], args := [d1, d2, d3, d4] }
  | _ => none }
def FnExactIsWithinWrongFalsely : Prop := fnExactIsWithinRow.holds Try.pinned (OpenSpec.ofChange fnExactIsWithinWrong)

/-- 'laws.FnExactNewView': WHATEVER THE INPUT: true; the input reads as it did. -/
def fnExactNewViewSpec : ChangeSpec := { name := "fnExactNewView", fn := fun _ => fun
  | [d1, d2, d3] => { results := [.lit (.bool true)], args := [d1, d2, d3] }
  | _ => none }
def fnExactNewViewRow : OpenClaim := { program := "ytlobjfipefibaaa", sum := "d34aea53135534e4d9fddf7398f3c97531fcb47491d14d31251831c42404e6cf", func := "loop.example/g00564/laws.FnExactNewView", spec := "fnExactNewView", plainKeys := false, apart := false }
def FnExactNewViewSaid : Prop := fnExactNewViewRow.holds Try.pinned (OpenSpec.ofChange fnExactNewViewSpec)

/-- ITS FALSE NEIGHBOUR: 'it returns false'. Refute it at one input. -/
def fnExactNewViewWrong : ChangeSpec := { name := "fnExactNewView", fn := fun _ => fun
  | [d1, d2, d3] => { results := [.lit (.bool false)], args := [d1, d2, d3] }
  | _ => none }
def FnExactNewViewWrongFalsely : Prop := fnExactNewViewRow.holds Try.pinned (OpenSpec.ofChange fnExactNewViewWrong)

/-- 'laws.FnTree': WHATEVER THE INPUT: true; the input reads as it did. -/
def fnTreeSpec : ChangeSpec := { name := "fnTree", fn := fun _ => fun
  | [d1, d2] => { results := [.lit (.bool true)], args := [d1, d2] }
  | _ => none }
def fnTreeRow : OpenClaim := { program := "ytlobjfipefibaaa", sum := "d34aea53135534e4d9fddf7398f3c97531fcb47491d14d31251831c42404e6cf", func := "loop.example/g00564/laws.FnTree", spec := "fnTree", unfollowed := true, recurses := true, plainKeys := false, apart := false }
def FnTreeSaid : Prop := fnTreeRow.holds Try.pinned (OpenSpec.ofChange fnTreeSpec)

/-- ITS FALSE NEIGHBOUR: 'it returns false'. Refute it at one input. -/
def fnTreeWrong : ChangeSpec := { name := "fnTree", fn := fun _ => fun
  | [d1, d2] => { results := [.lit (.bool false)], args := [d1, d2] }
  | _ => none }
def FnTreeWrongFalsely : Prop := fnTreeRow.holds Try.pinned (OpenSpec.ofChange fnTreeWrong)

/- THE SECOND FORM. 'bulk': how many values and letters a reading holds, each counted each time it is reached (what is shared counts as often as it is met; a slice's spare places count too). A statement '..UptoSaid' is the law's where the arguments, and the package variables that the reading takes, are together of bulk at most 1048576: NARROWER than '..Said'. Prove '..Said' where nothing that the law and all that it calls make is longer than what came in: it says more and counts as full. Else prove '..UptoSaid'. A law counts once. -/
mutual
def uptoBulk {H : Type} : DataW H → Nat
  | .lit (.string bytes) => bytes.length + 1
  | .lit _ => 1
  | .nil => 1
  | .ptr d => uptoBulk d + 1
  | .slice elems spare => uptoBulkAll elems + uptoBulkAll spare + 1
  | .agg parts => uptoBulkAll parts + 1
  | .iface _ d => uptoBulk d + 1
  | .map entries => uptoBulkEntries entries + 1
  | .held _ => 1
def uptoBulkAll {H : Type} : List (DataW H) → Nat
  | [] => 0
  | d :: r => uptoBulk d + uptoBulkAll r
def uptoBulkEntries {H : Type} : List (Lit × DataW H) → Nat
  | [] => 0
  | x :: r => uptoBulkEntry x + uptoBulkEntries r
def uptoBulkEntry {H : Type} : Lit × DataW H → Nat
  | (.string bytes, d) => bytes.length + uptoBulk d + 1
  | (_, d) => uptoBulk d + 1
 end
def uptoSmall : (H : Type) → List (DataW H) → Bool := fun _ ds => decide (uptoBulkAll ds ≤ 1048576)
def OpenSpec.upto (s : _root_.Go.ChangeSpec) : _root_.Go.OpenSpec := { _root_.Go.OpenSpec.ofChange s with cond := some uptoSmall }

/-- 'laws.FnExactPoolOf', WHERE WHAT IT READS IS OF BULK AT MOST 1048576: true; the input reads as it did. -/
def fnExactPoolOfUptoRow : OpenClaim := { program := "ytlobjfipefibaaa", sum := "d34aea53135534e4d9fddf7398f3c97531fcb47491d14d31251831c42404e6cf", func := "loop.example/g00564/laws.FnExactPoolOf", spec := "fnExactPoolOf", unfollowed := true, recurses := true, plainKeys := false, apart := false, narrowed := true }
def FnExactPoolOfUptoSaid : Prop := fnExactPoolOfUptoRow.holds Try.pinned (OpenSpec.upto fnExactPoolOfSpec)

/-- 'laws.FnExactPutVote', WHERE WHAT IT READS IS OF BULK AT MOST 1048576: true; the input reads as it did. -/
def fnExactPutVoteUptoRow : OpenClaim := { program := "ytlobjfipefibaaa", sum := "d34aea53135534e4d9fddf7398f3c97531fcb47491d14d31251831c42404e6cf", func := "loop.example/g00564/laws.FnExactPutVote", spec := "fnExactPutVote", unfollowed := true, recurses := true, plainKeys := false, apart := false, narrowed := true }
def FnExactPutVoteUptoSaid : Prop := fnExactPutVoteUptoRow.holds Try.pinned (OpenSpec.upto fnExactPutVoteSpec)

/-- 'laws.FnExactMergePools', WHERE WHAT IT READS IS OF BULK AT MOST 1048576: true; the input reads as it did. -/
def fnExactMergePoolsUptoRow : OpenClaim := { program := "ytlobjfipefibaaa", sum := "d34aea53135534e4d9fddf7398f3c97531fcb47491d14d31251831c42404e6cf", func := "loop.example/g00564/laws.FnExactMergePools", spec := "fnExactMergePools", unfollowed := true, recurses := true, plainKeys := false, apart := false, narrowed := true }
def FnExactMergePoolsUptoSaid : Prop := fnExactMergePoolsUptoRow.holds Try.pinned (OpenSpec.upto fnExactMergePoolsSpec)

/-- 'laws.FnExactGoodView', WHERE WHAT IT READS IS OF BULK AT MOST 1048576: true; the input reads as it did. -/
def fnExactGoodViewUptoRow : OpenClaim := { program := "ytlobjfipefibaaa", sum := "d34aea53135534e4d9fddf7398f3c97531fcb47491d14d31251831c42404e6cf", func := "loop.example/g00564/laws.FnExactGoodView", spec := "fnExactGoodView", plainKeys := false, apart := false, narrowed := true }
def FnExactGoodViewUptoSaid : Prop := fnExactGoodViewUptoRow.holds Try.pinned (OpenSpec.upto fnExactGoodViewSpec)

/-- 'laws.FnExactSeeVotes', WHERE WHAT IT READS IS OF BULK AT MOST 1048576: true; the input reads as it did. -/
def fnExactSeeVotesUptoRow : OpenClaim := { program := "ytlobjfipefibaaa", sum := "d34aea53135534e4d9fddf7398f3c97531fcb47491d14d31251831c42404e6cf", func := "loop.example/g00564/laws.FnExactSeeVotes", spec := "fnExactSeeVotes", unfollowed := true, recurses := true, plainKeys := false, apart := false, narrowed := true }
def FnExactSeeVotesUptoSaid : Prop := fnExactSeeVotesUptoRow.holds Try.pinned (OpenSpec.upto fnExactSeeVotesSpec)

/-- 'laws.FnExactFreezeView', WHERE WHAT IT READS IS OF BULK AT MOST 1048576: true; the input reads as it did. -/
def fnExactFreezeViewUptoRow : OpenClaim := { program := "ytlobjfipefibaaa", sum := "d34aea53135534e4d9fddf7398f3c97531fcb47491d14d31251831c42404e6cf", func := "loop.example/g00564/laws.FnExactFreezeView", spec := "fnExactFreezeView", plainKeys := false, apart := false, narrowed := true }
def FnExactFreezeViewUptoSaid : Prop := fnExactFreezeViewUptoRow.holds Try.pinned (OpenSpec.upto fnExactFreezeViewSpec)

/-- 'laws.FnExactMergeView', WHERE WHAT IT READS IS OF BULK AT MOST 1048576: true; the input reads as it did. -/
def fnExactMergeViewUptoRow : OpenClaim := { program := "ytlobjfipefibaaa", sum := "d34aea53135534e4d9fddf7398f3c97531fcb47491d14d31251831c42404e6cf", func := "loop.example/g00564/laws.FnExactMergeView", spec := "fnExactMergeView", unfollowed := true, recurses := true, plainKeys := false, apart := false, narrowed := true }
def FnExactMergeViewUptoSaid : Prop := fnExactMergeViewUptoRow.holds Try.pinned (OpenSpec.upto fnExactMergeViewSpec)

/-- 'laws.FnExactHeadByView', WHERE WHAT IT READS IS OF BULK AT MOST 1048576: true; the input reads as it did. -/
def fnExactHeadByViewUptoRow : OpenClaim := { program := "ytlobjfipefibaaa", sum := "d34aea53135534e4d9fddf7398f3c97531fcb47491d14d31251831c42404e6cf", func := "loop.example/g00564/laws.FnExactHeadByView", spec := "fnExactHeadByView", recurses := true, plainKeys := false, apart := false, narrowed := true }
def FnExactHeadByViewUptoSaid : Prop := fnExactHeadByViewUptoRow.holds Try.pinned (OpenSpec.upto fnExactHeadByViewSpec)

/-- 'laws.FnExactIsWithin', WHERE WHAT IT READS IS OF BULK AT MOST 1048576: true; the input reads as it did. -/
def fnExactIsWithinUptoRow : OpenClaim := { program := "ytlobjfipefibaaa", sum := "d34aea53135534e4d9fddf7398f3c97531fcb47491d14d31251831c42404e6cf", func := "loop.example/g00564/laws.FnExactIsWithin", spec := "fnExactIsWithin", plainKeys := false, apart := false, narrowed := true }
def FnExactIsWithinUptoSaid : Prop := fnExactIsWithinUptoRow.holds Try.pinned (OpenSpec.upto fnExactIsWithinSpec)

/-- 'laws.FnExactNewView', WHERE WHAT IT READS IS OF BULK AT MOST 1048576: true; the input reads as it did. -/
def fnExactNewViewUptoRow : OpenClaim := { program := "ytlobjfipefibaaa", sum := "d34aea53135534e4d9fddf7398f3c97531fcb47491d14d31251831c42404e6cf", func := "loop.example/g00564/laws.FnExactNewView", spec := "fnExactNewView", plainKeys := false, apart := false, narrowed := true }
def FnExactNewViewUptoSaid : Prop := fnExactNewViewUptoRow.holds Try.pinned (OpenSpec.upto fnExactNewViewSpec)

/-- 'laws.FnTree', WHERE WHAT IT READS IS OF BULK AT MOST 1048576: true; the input reads as it did. -/
def fnTreeUptoRow : OpenClaim := { program := "ytlobjfipefibaaa", sum := "d34aea53135534e4d9fddf7398f3c97531fcb47491d14d31251831c42404e6cf", func := "loop.example/g00564/laws.FnTree", spec := "fnTree", unfollowed := true, recurses := true, plainKeys := false, apart := false, narrowed := true }
def FnTreeUptoSaid : Prop := fnTreeUptoRow.holds Try.pinned (OpenSpec.upto fnTreeSpec)

end Rows
end Go.Proofs.Ytlobjfipefibaaa
