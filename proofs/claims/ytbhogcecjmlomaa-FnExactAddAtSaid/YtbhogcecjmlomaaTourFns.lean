/- What is proved here: what the program's OrderOf, TourOf and ChildrenOf return. No conditions. -/
import Derived.Test.YtbhogcecjmlomaaCollect
import Derived.Test.YtbhogcecjmlomaaWays
namespace Go.Proofs.Ytbhogcecjmlomaa
open Go.RowKit Go.Shelf

attribute [local go_sem] Oper.semAt_some

def ordR (ts : List Blk) : List Int := if goodT ts then orderL (tour ts 0) else []
def tourL (xs : List (Nat × Bool)) : List Int := xs.map fun x => (x.1 : Int)
theorem tourL_snoc (pre : List (Nat × Bool)) (x : Nat × Bool) : tourL (pre ++ [x]) = tourL pre ++ [(x.1 : Int)] := by simp [tourL]
theorem tourL_len (xs : List (Nat × Bool)) : (tourL xs).length = xs.length := by simp [tourL]
def tourR (ts : List Blk) : List Int := if goodT ts then tourL (tour ts 0) else []
def kidsZ (xs : List Nat) : List Int := xs.map fun (x : Nat) => (x : Int)
theorem kidsZ_snoc (pre : List Nat) (x : Nat) : kidsZ (pre ++ [x]) = kidsZ pre ++ [(x : Int)] := by simp [kidsZ]
def kidsR (ts : List Blk) (b : Int) : List Int := if okK ts b then kidsZ (kids ts b.toNat) else []

end Go.Proofs.Ytbhogcecjmlomaa
