/- What is proved here: the law's copying, comparing and marking of slices of blocks and of integers, each with the number of the new block as a letter. No conditions but lengths. -/
import Derived.Test.YtlobjfipefibaabBlocks
import Derived.Test.YtlobjfipefibaabOwn
namespace Go.Proofs.Ytlobjfipefibaab
open Go.RowKit

theorem IntsAt.up' {w w' : World} {A : Option Addr} {n : Nat} {xs : List Int} (h : IntsAt w w.heap.size A n xs) (hb : Below w.heap.size w w') : IntsAt w' w'.heap.size A n xs := (h.below hb).more hb.size
theorem row_ints {w : World} {g n : Nat} {xs : List Int} (hl : xs.length = n) (h : w.rowIs g 3 n (fun i => .int .i64 (xs[i]?.getD 0))) : IntsAt w w.heap.size (some ⟨g, 0, none⟩) n xs := (OwnAt.of_row h.lt hl h).ints
theorem row_blks' {w : World} {g n : Nat} {ts : List Blk} (hl : ts.length = n) (h : w.rowIs g 65 (n * 2) (cellsOf ts)) : BlksAt w w.heap.size (some ⟨g, 0, none⟩) n ts := BlksAt.of_row h.lt hl h
theorem rowIs_only {w w' : World} {b : Nat} {t : TypeId} {n : Nat} {f : Nat → Value} {A : Option Addr} (h : w.rowIs b t n f) (ho : Only A w w') (hd : ∀ ad, A = some ad → b ≠ ad.block) : w'.rowIs b t n f := h.of_block (ho.block b hd)

end Go.Proofs.Ytlobjfipefibaab
