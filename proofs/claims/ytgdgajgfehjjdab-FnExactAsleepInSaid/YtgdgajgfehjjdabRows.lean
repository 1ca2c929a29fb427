/-
  No cell of these rows narrows 'for every input' (looked for: loops, veiled, ifaces, maps, wideKeys, modest, calm, conditions, laid).
  DERIVED. THE GIVEN ROWS OF THIS SEAT. 12 by the template 'for every input the law returns true; each argument reads behind the call as it read before'; 0 by the template 'total and deterministic' (their statements: YtgdgajgfehjjdabTotals.lean).
  GIVEN WITH THE SEED: the statements are not yours to turn. If you find one false, say at which input.
  Laid BY PROGRAM, IN A SANDBOX (cutbox-rows.mjs): the forced cells as the released guide's own fill.sh prints them over the translation 2e1db67cb5f61f8e… (all of the seat's roots in one cut). By AI agents, Wed Nov 11 2026. No macro, syntax, notation, axiom, sorry.
-/
import Derived.Test.YtgdgajgfehjjdabChecked
import GoSem.Claim
import GoSem.ClaimJoined
import GoSem.ClaimMapViews
import Derived.JoinedTies
import Derived.KernelRfl
namespace Go.Proofs.Ytgdgajgfehjjdab
/- THE CELL 'sum', in the pinned program and in every row, IS THE sha256 OF THE DUMP (.gsa) THAT YtgdgajgfehjjdabProg.lean LOADS. Nothing in Lean hashes anything: it is a label: what it is worth is what the hold of that sum in a sandbox is worth. -/
noncomputable def Try.pinned : Pinned := { name := "ytgdgajgfehjjdab", sum := "2e1db67cb5f61f8e716617158eb1cce9452e10557aa8d39b9720f647d01a724c", checked := Try.checked }
namespace Rows
def none {H : Type} : Left H := { results := [], args := [] }

/-- 'laws.FnActive': WHATEVER THE INPUT: true; the input reads as it did. -/
def fnActiveSpec : ChangeSpec := { name := "fnActive", fn := fun _ => fun
  | [d1, d2] => { results := [.lit (.bool true)], args := [d1, d2] }
  | _ => none }
def fnActiveRow : OpenClaim := { program := "ytgdgajgfehjjdab", sum := "2e1db67cb5f61f8e716617158eb1cce9452e10557aa8d39b9720f647d01a724c", func := "loop.example/g00564/laws.FnActive", spec := "fnActive", inPlace := ["sync/atomic.AddInt64", "sync/atomic.LoadInt64"], unfollowed := true, recurses := true, apart := false }
def FnActiveSaid : Prop := fnActiveRow.holds Try.pinned (OpenSpec.ofChange fnActiveSpec)

/-- ITS FALSE NEIGHBOUR: 'it returns false'. Refute it at one input. -/
def fnActiveWrong : ChangeSpec := { name := "fnActive", fn := fun _ => fun
  | [d1, d2] => { results := [.lit (.bool false)], args := [d1, d2] }
  | _ => none }
def FnActiveWrongFalsely : Prop := fnActiveRow.holds Try.pinned (OpenSpec.ofChange fnActiveWrong)

/-- 'laws.FnWithin': WHATEVER THE INPUT: true; the input reads as it did. -/
def fnWithinSpec : ChangeSpec := { name := "fnWithin", fn := fun _ => fun
  | [d1, d2] => { results := [.lit (.bool true)], args := [d1, d2] }
  | _ => none }
def fnWithinRow : OpenClaim := { program := "ytgdgajgfehjjdab", sum := "2e1db67cb5f61f8e716617158eb1cce9452e10557aa8d39b9720f647d01a724c", func := "loop.example/g00564/laws.FnWithin", spec := "fnWithin", unfollowed := true, recurses := true, apart := false }
def FnWithinSaid : Prop := fnWithinRow.holds Try.pinned (OpenSpec.ofChange fnWithinSpec)

/-- ITS FALSE NEIGHBOUR: 'it returns false'. Refute it at one input. -/
def fnWithinWrong : ChangeSpec := { name := "fnWithin", fn := fun _ => fun
  | [d1, d2] => { results := [.lit (.bool false)], args := [d1, d2] }
  | _ => none }
def FnWithinWrongFalsely : Prop := fnWithinRow.holds Try.pinned (OpenSpec.ofChange fnWithinWrong)

/-- 'laws.FnExactActiveIn': WHATEVER THE INPUT: true; the input reads as it did. -/
def fnExactActiveInSpec : ChangeSpec := { name := "fnExactActiveIn", fn := fun _ => fun
  | [d1, d2, d3, d4, d5] => { results := [.lit (.bool true)], args := [d1, d2, d3, d4, d5] }
  | _ => none }
def fnExactActiveInRow : OpenClaim := { program := "ytgdgajgfehjjdab", sum := "2e1db67cb5f61f8e716617158eb1cce9452e10557aa8d39b9720f647d01a724c", func := "loop.example/g00564/laws.FnExactActiveIn", spec := "fnExactActiveIn", unfollowed := true, recurses := true, apart := false }
def FnExactActiveInSaid : Prop := fnExactActiveInRow.holds Try.pinned (OpenSpec.ofChange fnExactActiveInSpec)

/-- ITS FALSE NEIGHBOUR: 'it returns false'. Refute it at one input. -/
def fnExactActiveInWrong : ChangeSpec := { name := "fnExactActiveIn", fn := fun _ => fun
  | [d1, d2, d3, d4, d5] => { results := [.lit (.bool false)], args := [d1, d2, d3, d4, d5] }
  | _ => none }
def FnExactActiveInWrongFalsely : Prop := fnExactActiveInRow.holds Try.pinned (OpenSpec.ofChange fnExactActiveInWrong)

/-- 'laws.FnExactHeadWithin': WHATEVER THE INPUT: true; the input reads as it did. -/
def fnExactHeadWithinSpec : ChangeSpec := { name := "fnExactHeadWithin", fn := fun _ => fun
  | [d1, d2, d3, d4, d5] => { results := [.lit (.bool true)], args := [d1, d2, d3, d4, d5] }
  | _ => none }
def fnExactHeadWithinRow : OpenClaim := { program := "ytgdgajgfehjjdab", sum := "2e1db67cb5f61f8e716617158eb1cce9452e10557aa8d39b9720f647d01a724c", func := "loop.example/g00564/laws.FnExactHeadWithin", spec := "fnExactHeadWithin", unfollowed := true, recurses := true, apart := false }
def FnExactHeadWithinSaid : Prop := fnExactHeadWithinRow.holds Try.pinned (OpenSpec.ofChange fnExactHeadWithinSpec)

/-- ITS FALSE NEIGHBOUR: 'it returns false'. Refute it at one input. -/
def fnExactHeadWithinWrong : ChangeSpec := { name := "fnExactHeadWithin", fn := fun _ => fun
  | [d1, d2, d3, d4, d5] => { results := [.lit (.bool false)], args := [d1, d2, d3, d4, d5] }
  | _ => none }
def FnExactHeadWithinWrongFalsely : Prop := fnExactHeadWithinRow.holds Try.pinned (OpenSpec.ofChange fnExactHeadWithinWrong)

/-- 'laws.FnExactAsleepIn': WHATEVER THE INPUT: true; the input reads as it did. -/
def fnExactAsleepInSpec : ChangeSpec := { name := "fnExactAsleepIn", fn := fun _ => fun
  | [d1, d2, d3, d4, d5] => { results := [.lit (.bool true)], args := [d1, d2, d3, d4, d5] }
  | _ => none }
def fnExactAsleepInRow : OpenClaim := { program := "ytgdgajgfehjjdab", sum := "2e1db67cb5f61f8e716617158eb1cce9452e10557aa8d39b9720f647d01a724c", func := "loop.example/g00564/laws.FnExactAsleepIn", spec := "fnExactAsleepIn", inPlace := ["sync/atomic.AddInt64", "sync/atomic.LoadInt64"], unfollowed := true, recurses := true, apart := false }
def FnExactAsleepInSaid : Prop := fnExactAsleepInRow.holds Try.pinned (OpenSpec.ofChange fnExactAsleepInSpec)

/-- ITS FALSE NEIGHBOUR: 'it returns false'. Refute it at one input. -/
def fnExactAsleepInWrong : ChangeSpec := { name := "fnExactAsleepIn", fn := fun _ => fun
  | [d1, d2, d3, d4, d5] => { results := [.lit (.bool false)], args := [d1, d2, d3, d4, d5] }
  | _ => none }
def FnExactAsleepInWrongFalsely : Prop := fnExactAsleepInRow.holds Try.pinned (OpenSpec.ofChange fnExactAsleepInWrong)

/-- 'laws.FnExactRunsOutAt': WHATEVER THE INPUT: true; the input reads as it did. -/
def fnExactRunsOutAtSpec : ChangeSpec := { name := "fnExactRunsOutAt", fn := fun _ => fun
  | [d1, d2] => { results := [.lit (.bool true)], args := [d1, d2] }
  | _ => none }
def fnExactRunsOutAtRow : OpenClaim := { program := "ytgdgajgfehjjdab", sum := "2e1db67cb5f61f8e716617158eb1cce9452e10557aa8d39b9720f647d01a724c", func := "loop.example/g00564/laws.FnExactRunsOutAt", spec := "fnExactRunsOutAt", apart := false }
def FnExactRunsOutAtSaid : Prop := fnExactRunsOutAtRow.holds Try.pinned (OpenSpec.ofChange fnExactRunsOutAtSpec)

/-- ITS FALSE NEIGHBOUR: 'it returns false'. Refute it at one input. -/
def fnExactRunsOutAtWrong : ChangeSpec := { name := "fnExactRunsOutAt", fn := fun _ => fun
  | [d1, d2] => { results := [.lit (.bool false)], args := [d1, d2] }
  | _ => none }
def FnExactRunsOutAtWrongFalsely : Prop := fnExactRunsOutAtRow.holds Try.pinned (OpenSpec.ofChange fnExactRunsOutAtWrong)

/-- 'laws.FnExactTrim': WHATEVER THE INPUT: true; the input reads as it did. -/
def fnExactTrimSpec : ChangeSpec := { name := "fnExactTrim", fn := fun _ => fun
  | [d1, d2, d3, d4, d5] => { results := [.lit (.bool true)], args := [d1, d2, d3, d4, d5] }
  | _ => none }
def fnExactTrimRow : OpenClaim := { program := "ytgdgajgfehjjdab", sum := "2e1db67cb5f61f8e716617158eb1cce9452e10557aa8d39b9720f647d01a724c", func := "loop.example/g00564/laws.FnExactTrim", spec := "fnExactTrim", unfollowed := true, recurses := true, apart := false }
def FnExactTrimSaid : Prop := fnExactTrimRow.holds Try.pinned (OpenSpec.ofChange fnExactTrimSpec)

/-- ITS FALSE NEIGHBOUR: 'it returns false'. Refute it at one input. -/
def fnExactTrimWrong : ChangeSpec := { name := "fnExactTrim", fn := fun _ => fun
  | [d1, d2, d3, d4, d5] => { results := [.lit (.bool false)], args := [d1, d2, d3, d4, d5] }
  | _ => none }
def FnExactTrimWrongFalsely : Prop := fnExactTrimRow.holds Try.pinned (OpenSpec.ofChange fnExactTrimWrong)

/-- 'laws.FnExactWeightWithin': WHATEVER THE INPUT: true; the input reads as it did. -/
def fnExactWeightWithinSpec : ChangeSpec := { name := "fnExactWeightWithin", fn := fun _ => fun
  | [d1, d2, d3, d4, d5] => { results := [.lit (.bool true)], args := [d1, d2, d3, d4, d5] }
  | _ => none }
def fnExactWeightWithinRow : OpenClaim := { program := "ytgdgajgfehjjdab", sum := "2e1db67cb5f61f8e716617158eb1cce9452e10557aa8d39b9720f647d01a724c", func := "loop.example/g00564/laws.FnExactWeightWithin", spec := "fnExactWeightWithin", unfollowed := true, recurses := true, apart := false }
def FnExactWeightWithinSaid : Prop := fnExactWeightWithinRow.holds Try.pinned (OpenSpec.ofChange fnExactWeightWithinSpec)

/-- ITS FALSE NEIGHBOUR: 'it returns false'. Refute it at one input. -/
def fnExactWeightWithinWrong : ChangeSpec := { name := "fnExactWeightWithin", fn := fun _ => fun
  | [d1, d2, d3, d4, d5] => { results := [.lit (.bool false)], args := [d1, d2, d3, d4, d5] }
  | _ => none }
def FnExactWeightWithinWrongFalsely : Prop := fnExactWeightWithinRow.holds Try.pinned (OpenSpec.ofChange fnExactWeightWithinWrong)

/-- 'laws.FnExactFinalView': WHATEVER THE INPUT: true; the input reads as it did. -/
def fnExactFinalViewSpec : ChangeSpec := { name := "fnExactFinalView", fn := fun _ => fun
  | [d1, d2, d3, d4] => { results := [.lit (.bool true)], args := [d1, d2, d3, d4] }
  | _ => none }
def fnExactFinalViewRow : OpenClaim := { program := "ytgdgajgfehjjdab", sum := "2e1db67cb5f61f8e716617158eb1cce9452e10557aa8d39b9720f647d01a724c", func := "loop.example/g00564/laws.FnExactFinalView", spec := "fnExactFinalView", unfollowed := true, recurses := true, apart := false }
def FnExactFinalViewSaid : Prop := fnExactFinalViewRow.holds Try.pinned (OpenSpec.ofChange fnExactFinalViewSpec)

/-- ITS FALSE NEIGHBOUR: 'it returns false'. Refute it at one input. -/
def fnExactFinalViewWrong : ChangeSpec := { name := "fnExactFinalView", fn := fun _ => fun
  | [d1, d2, d3, d4] => { results := [.lit (.bool false)], args := [d1, d2, d3, d4] }
  | _ => none }
def FnExactFinalViewWrongFalsely : Prop := fnExactFinalViewRow.holds Try.pinned (OpenSpec.ofChange fnExactFinalViewWrong)

/-- 'laws.FnSums': WHATEVER THE INPUT: true; the input reads as it did. -/
def fnSumsSpec : ChangeSpec := { name := "fnSums", fn := fun _ => fun
  | [d1, d2] => { results := [.lit (.bool true)], args := [d1, d2] }
  | _ => none }
def fnSumsRow : OpenClaim := { program := "ytgdgajgfehjjdab", sum := "2e1db67cb5f61f8e716617158eb1cce9452e10557aa8d39b9720f647d01a724c", func := "loop.example/g00564/laws.FnSums", spec := "fnSums", apart := false }
def FnSumsSaid : Prop := fnSumsRow.holds Try.pinned (OpenSpec.ofChange fnSumsSpec)

/-- ITS FALSE NEIGHBOUR: 'it returns false'. Refute it at one input. -/
def fnSumsWrong : ChangeSpec := { name := "fnSums", fn := fun _ => fun
  | [d1, d2] => { results := [.lit (.bool false)], args := [d1, d2] }
  | _ => none }
def FnSumsWrongFalsely : Prop := fnSumsRow.holds Try.pinned (OpenSpec.ofChange fnSumsWrong)

/-- 'laws.FnAbove': WHATEVER THE INPUT: true; the input reads as it did. -/
def fnAboveSpec : ChangeSpec := { name := "fnAbove", fn := fun _ => fun
  | [d1, d2] => { results := [.lit (.bool true)], args := [d1, d2] }
  | _ => none }
def fnAboveRow : OpenClaim := { program := "ytgdgajgfehjjdab", sum := "2e1db67cb5f61f8e716617158eb1cce9452e10557aa8d39b9720f647d01a724c", func := "loop.example/g00564/laws.FnAbove", spec := "fnAbove", apart := false }
def FnAboveSaid : Prop := fnAboveRow.holds Try.pinned (OpenSpec.ofChange fnAboveSpec)

/-- ITS FALSE NEIGHBOUR: 'it returns false'. Refute it at one input. -/
def fnAboveWrong : ChangeSpec := { name := "fnAbove", fn := fun _ => fun
  | [d1, d2] => { results := [.lit (.bool false)], args := [d1, d2] }
  | _ => none }
def FnAboveWrongFalsely : Prop := fnAboveRow.holds Try.pinned (OpenSpec.ofChange fnAboveWrong)

/-- 'laws.FnTree': WHATEVER THE INPUT: true; the input reads as it did. -/
def fnTreeSpec : ChangeSpec := { name := "fnTree", fn := fun _ => fun
  | [d1, d2] => { results := [.lit (.bool true)], args := [d1, d2] }
  | _ => none }
def fnTreeRow : OpenClaim := { program := "ytgdgajgfehjjdab", sum := "2e1db67cb5f61f8e716617158eb1cce9452e10557aa8d39b9720f647d01a724c", func := "loop.example/g00564/laws.FnTree", spec := "fnTree", unfollowed := true, recurses := true, apart := false }
def FnTreeSaid : Prop := fnTreeRow.holds Try.pinned (OpenSpec.ofChange fnTreeSpec)

/-- ITS FALSE NEIGHBOUR: 'it returns false'. Refute it at one input. -/
def fnTreeWrong : ChangeSpec := { name := "fnTree", fn := fun _ => fun
  | [d1, d2] => { results := [.lit (.bool false)], args := [d1, d2] }
  | _ => none }
def FnTreeWrongFalsely : Prop := fnTreeRow.holds Try.pinned (OpenSpec.ofChange fnTreeWrong)

/- THE SECOND FORM. 'bulk': how many values and letters a reading holds, each counted each time it is reached (what is shared counts as often as it is met; a slice's spare places count too). A statement '..UptoSaid' is the law's where the arguments, and the package variables that the reading takes, are together of bulk at most 1048576: NARROWER than '..Said'. Prove '..Said' where nothing that the law and all that it calls make is longer than what came in: it says more and counts as full. Else prove '..UptoSaid'. A law counts once. -/
mutual
def uptoBulk {H : Type} : DataW H → Nat
  | .lit (.string bytes) => bytes.length + 1
  | .lit _ => 1
  | .nil => 1
  | .ptr d => uptoBulk d + 1
  | .slice elems spare => uptoBulkAll elems + uptoBulkAll spare + 1
  | .agg parts => uptoBulkAll parts + 1
  | .iface _ d => uptoBulk d + 1
  | .map entries => uptoBulkEntries entries + 1
  | .held _ => 1
def uptoBulkAll {H : Type} : List (DataW H) → Nat
  | [] => 0
  | d :: r => uptoBulk d + uptoBulkAll r
def uptoBulkEntries {H : Type} : List (Lit × DataW H) → Nat
  | [] => 0
  | x :: r => uptoBulkEntry x + uptoBulkEntries r
def uptoBulkEntry {H : Type} : Lit × DataW H → Nat
  | (.string bytes, d) => bytes.length + uptoBulk d + 1
  | (_, d) => uptoBulk d + 1
 end
def uptoSmall : (H : Type) → List (DataW H) → Bool := fun _ ds => decide (uptoBulkAll ds ≤ 1048576)
def OpenSpec.upto (s : _root_.Go.ChangeSpec) : _root_.Go.OpenSpec := { _root_.Go.OpenSpec.ofChange s with cond := some uptoSmall }

/-- 'laws.FnActive', WHERE WHAT IT READS IS OF BULK AT MOST 1048576: true; the input reads as it did. -/
def fnActiveUptoRow : OpenClaim := { program := "ytgdgajgfehjjdab", sum := "2e1db67cb5f61f8e716617158eb1cce9452e10557aa8d39b9720f647d01a724c", func := "loop.example/g00564/laws.FnActive", spec := "fnActive", inPlace := ["sync/atomic.AddInt64", "sync/atomic.LoadInt64"], unfollowed := true, recurses := true, apart := false, narrowed := true }
def FnActiveUptoSaid : Prop := fnActiveUptoRow.holds Try.pinned (OpenSpec.upto fnActiveSpec)

/-- 'laws.FnWithin', WHERE WHAT IT READS IS OF BULK AT MOST 1048576: true; the input reads as it did. -/
def fnWithinUptoRow : OpenClaim := { program := "ytgdgajgfehjjdab", sum := "2e1db67cb5f61f8e716617158eb1cce9452e10557aa8d39b9720f647d01a724c", func := "loop.example/g00564/laws.FnWithin", spec := "fnWithin", unfollowed := true, recurses := true, apart := false, narrowed := true }
def FnWithinUptoSaid : Prop := fnWithinUptoRow.holds Try.pinned (OpenSpec.upto fnWithinSpec)

/-- 'laws.FnExactActiveIn', WHERE WHAT IT READS IS OF BULK AT MOST 1048576: true; the input reads as it did. -/
def fnExactActiveInUptoRow : OpenClaim := { program := "ytgdgajgfehjjdab", sum := "2e1db67cb5f61f8e716617158eb1cce9452e10557aa8d39b9720f647d01a724c", func := "loop.example/g00564/laws.FnExactActiveIn", spec := "fnExactActiveIn", unfollowed := true, recurses := true, apart := false, narrowed := true }
def FnExactActiveInUptoSaid : Prop := fnExactActiveInUptoRow.holds Try.pinned (OpenSpec.upto fnExactActiveInSpec)

/-- 'laws.FnExactHeadWithin', WHERE WHAT IT READS IS OF BULK AT MOST 1048576: true; the input reads as it did. -/
def fnExactHeadWithinUptoRow : OpenClaim := { program := "ytgdgajgfehjjdab", sum := "2e1db67cb5f61f8e716617158eb1cce9452e10557aa8d39b9720f647d01a724c", func := "loop.example/g00564/laws.FnExactHeadWithin", spec := "fnExactHeadWithin", unfollowed := true, recurses := true, apart := false, narrowed := true }
def FnExactHeadWithinUptoSaid : Prop := fnExactHeadWithinUptoRow.holds Try.pinned (OpenSpec.upto fnExactHeadWithinSpec)

/-- 'laws.FnExactAsleepIn', WHERE WHAT IT READS IS OF BULK AT MOST 1048576: true; the input reads as it did. -/
def fnExactAsleepInUptoRow : OpenClaim := { program := "ytgdgajgfehjjdab", sum := "2e1db67cb5f61f8e716617158eb1cce9452e10557aa8d39b9720f647d01a724c", func := "loop.example/g00564/laws.FnExactAsleepIn", spec := "fnExactAsleepIn", inPlace := ["sync/atomic.AddInt64", "sync/atomic.LoadInt64"], unfollowed := true, recurses := true, apart := false, narrowed := true }
def FnExactAsleepInUptoSaid : Prop := fnExactAsleepInUptoRow.holds Try.pinned (OpenSpec.upto fnExactAsleepInSpec)

/-- 'laws.FnExactRunsOutAt', WHERE WHAT IT READS IS OF BULK AT MOST 1048576: true; the input reads as it did. -/
def fnExactRunsOutAtUptoRow : OpenClaim := { program := "ytgdgajgfehjjdab", sum := "2e1db67cb5f61f8e716617158eb1cce9452e10557aa8d39b9720f647d01a724c", func := "loop.example/g00564/laws.FnExactRunsOutAt", spec := "fnExactRunsOutAt", apart := false, narrowed := true }
def FnExactRunsOutAtUptoSaid : Prop := fnExactRunsOutAtUptoRow.holds Try.pinned (OpenSpec.upto fnExactRunsOutAtSpec)

/-- 'laws.FnExactTrim', WHERE WHAT IT READS IS OF BULK AT MOST 1048576: true; the input reads as it did. -/
def fnExactTrimUptoRow : OpenClaim := { program := "ytgdgajgfehjjdab", sum := "2e1db67cb5f61f8e716617158eb1cce9452e10557aa8d39b9720f647d01a724c", func := "loop.example/g00564/laws.FnExactTrim", spec := "fnExactTrim", unfollowed := true, recurses := true, apart := false, narrowed := true }
def FnExactTrimUptoSaid : Prop := fnExactTrimUptoRow.holds Try.pinned (OpenSpec.upto fnExactTrimSpec)

/-- 'laws.FnExactWeightWithin', WHERE WHAT IT READS IS OF BULK AT MOST 1048576: true; the input reads as it did. -/
def fnExactWeightWithinUptoRow : OpenClaim := { program := "ytgdgajgfehjjdab", sum := "2e1db67cb5f61f8e716617158eb1cce9452e10557aa8d39b9720f647d01a724c", func := "loop.example/g00564/laws.FnExactWeightWithin", spec := "fnExactWeightWithin", unfollowed := true, recurses := true, apart := false, narrowed := true }
def FnExactWeightWithinUptoSaid : Prop := fnExactWeightWithinUptoRow.holds Try.pinned (OpenSpec.upto fnExactWeightWithinSpec)

/-- 'laws.FnExactFinalView', WHERE WHAT IT READS IS OF BULK AT MOST 1048576: true; the input reads as it did. -/
def fnExactFinalViewUptoRow : OpenClaim := { program := "ytgdgajgfehjjdab", sum := "2e1db67cb5f61f8e716617158eb1cce9452e10557aa8d39b9720f647d01a724c", func := "loop.example/g00564/laws.FnExactFinalView", spec := "fnExactFinalView", unfollowed := true, recurses := true, apart := false, narrowed := true }
def FnExactFinalViewUptoSaid : Prop := fnExactFinalViewUptoRow.holds Try.pinned (OpenSpec.upto fnExactFinalViewSpec)

/-- 'laws.FnSums', WHERE WHAT IT READS IS OF BULK AT MOST 1048576: true; the input reads as it did. -/
def fnSumsUptoRow : OpenClaim := { program := "ytgdgajgfehjjdab", sum := "2e1db67cb5f61f8e716617158eb1cce9452e10557aa8d39b9720f647d01a724c", func := "loop.example/g00564/laws.FnSums", spec := "fnSums", apart := false, narrowed := true }
def FnSumsUptoSaid : Prop := fnSumsUptoRow.holds Try.pinned (OpenSpec.upto fnSumsSpec)

/-- 'laws.FnAbove', WHERE WHAT IT READS IS OF BULK AT MOST 1048576: true; the input reads as it did. -/
def fnAboveUptoRow : OpenClaim := { program := "ytgdgajgfehjjdab", sum := "2e1db67cb5f61f8e716617158eb1cce9452e10557aa8d39b9720f647d01a724c", func := "loop.example/g00564/laws.FnAbove", spec := "fnAbove", apart := false, narrowed := true }
def FnAboveUptoSaid : Prop := fnAboveUptoRow.holds Try.pinned (OpenSpec.upto fnAboveSpec)

/-- 'laws.FnTree', WHERE WHAT IT READS IS OF BULK AT MOST 1048576: true; the input reads as it did. -/
def fnTreeUptoRow : OpenClaim := { program := "ytgdgajgfehjjdab", sum := "2e1db67cb5f61f8e716617158eb1cce9452e10557aa8d39b9720f647d01a724c", func := "loop.example/g00564/laws.FnTree", spec := "fnTree", unfollowed := true, recurses := true, apart := false, narrowed := true }
def FnTreeUptoSaid : Prop := fnTreeUptoRow.holds Try.pinned (OpenSpec.upto fnTreeSpec)

end Rows
end Go.Proofs.Ytgdgajgfehjjdab
