/- What is proved here: what BelowOf of the program and of the model return. No conditions. -/
import Derived.Test.YthiegfbdmmpababTourFacts
import Derived.Test.YthiegfbdmmpababPutWalk
import Derived.Test.YthiegfbdmmpababShelf
import Derived.Sort.OwnSortedInts
namespace Go.Proofs.Ythiegfbdmmpabab
open Go.RowKit Go.Sort

def belR (ts : List Blk) (b : Int) : List Int := if okK ts b then sortI (orderL (tour ts b.toNat)) else []

theorem putAll_snoc {l : List Int} {j : Nat} (h : j < l.length) : putAll [] (l.take (j + 1)) = putL (putAll [] (l.take j)) (l[j]?.getD 0) := by
  rw [List.take_succ_eq_append_getElem h, List.getElem?_eq_getElem h]; unfold putAll; rw [List.foldl_append]; rfl
theorem putAll_len : ∀ (ks l : List Int), (putAll l ks).length ≤ l.length + ks.length
  | [], l => Nat.le_refl _
  | x :: ks, l => by
    have := putAll_len ks (putL l x)
    have := putL_len l x
    show (putAll (putL l x) ks).length ≤ _
    simp only [List.length_cons]; omega
theorem order_nodup {ts : List Blk} (ht : Tree ts) {b : Nat} (hb : b < ts.length) : (orderL (tour ts b)).Nodup := by
  rw [orderL_eq]
  have := pre_nodup ht _ b hb (Nat.le_refl _)
  unfold kidsZ
  refine List.Pairwise.map _ (fun a c h => ?_) this
  omega

theorem belR_len (ts : List Blk) (b : Int) : (belR ts b).length ≤ 100 := by
  unfold belR
  cases hg : okK ts b
  · simp
  · obtain ⟨ht, k, rfl, hk⟩ := okK_iff.1 hg
    simp only [if_true, Int.toNat_natCast]
    rw [sortI_len]
    have := tour_short ht hk
    exact Nat.le_trans (orderL_len _) (by omega)
end Go.Proofs.Ythiegfbdmmpabab
