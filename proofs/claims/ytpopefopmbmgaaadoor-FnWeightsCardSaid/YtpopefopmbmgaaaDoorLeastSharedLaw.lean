/- What is proved here: the law on LeastShared returns true at every slice of integers, and writes nothing that was there. No conditions but that the table of bits holds what its text lays. -/
import Derived.Test.YtpopefopmbmgaaaDoorLeastSpec
namespace Go.Proofs.YtpopefopmbmgaaaDoor
open Go.RowKit

theorem ls_same {s : List Int} {v v' : Int} (h1 : goodB s = true → IsLeast s v) (h2 : goodB s = false → v = 0) (h1' : goodB s = true → IsLeast s v') (h2' : goodB s = false → v' = 0) : v = v' := by
  cases hg : goodB s
  · rw [h2 hg, h2' hg]
  · exact least_unique (h1 hg) (h1' hg)

set_option maxHeartbeats 1600000 in
theorem lawLeastShared (A : Option Addr) (n c : Nat) (xs : List Int) (w : World) (h : IntsAt w w.heap.size A n xs) (hm : n ≤ maxLen) (ht : TabOk w) :
    Calls Tryd.prog 9 #[.slice A n c] w fun e w' => e = .returned (.bool true) ∧ Below w.heap.size w w' := by
  unfold maxLen at hm
  by_cases hn : n ≤ 1048576
  · have hl := Lib.hid h.1
    have hq2 : (goodB xs != goodB xs) = false := by simp
    go_enter Tryd.func9, Tryd.ntmps9
    go_wp2_with fail
    refine (toIntS_any A n c xs _ h hn).mono ?_
    rintro e w1 ⟨rfl, r1, b1, s1⟩
    go_wp2_with fail
    refine (specLeast_any _ _ _ xs _ (IntsAt.of_row (Nat.le_refl _) s1 hl.out r1) hn).mono ?_
    rintro e w2 ⟨v, rfl, g1, g2, b2⟩
    have g1' := Lib.hid g1; clear g1
    have g2' := Lib.hid g2; clear g2
    have b02 : Below w.heap.size w w2 := b1.trans (b2.mono b1.size)
    have h2 : IntsAt w2 w2.heap.size A n xs := (h.below b02).more b02.size
    clear r1 b1 s1 b2
    go_wp2_with fail
    refine (toIntS_any A n c xs _ h2 hn).mono ?_
    rintro e w3 ⟨rfl, r3, b3, s3⟩
    have b03 : Below w.heap.size w w3 := b02.trans (b3.mono b02.size)
    have t3 : TabOk w3 := ht.below b03 ht.pos
    have x3 : OwnAt w3 w2.heap.size (some ⟨w2.heap.size, 0, none⟩) n xs := OwnAt.of_row s3 hl.out r3
    go_wp2_with fail
    refine (implLeast_any _ _ _ xs _ x3.ints hn t3).mono ?_
    rintro e w4 ⟨v', rfl, g3, g4, b4⟩
    have hv : v' = v := ls_same g3 g4 g1'.out g2'.out
    subst hv
    have hq1 : (v' != v') = false := by simp
    have b04 : Below w.heap.size w w4 := b03.trans (b4.mono b03.size)
    have h4 : IntsAt w4 w4.heap.size A n xs := (h.below b04).more b04.size
    have x4 : OwnAt w4 w2.heap.size (some ⟨w2.heap.size, 0, none⟩) n xs := x3.below b4
    clear g3 g4 r3 x3
    go_wp2_with fail
    refine (toIntS_any A n c xs _ h4 hn).mono ?_
    rintro e w5 ⟨rfl, r5, b5, s5⟩
    go_wp2_with fail
    have hq : eqB xs xs = true := eqB_yes rfl (fun _ _ => rfl)
    refine (eqIntS_any _ _ n n _ _ w5.heap.size xs xs _ (x4.below b5).ints (IntsAt.of_row (Nat.le_refl _) s5 hl.out r5) hn hn).mono ?_
    rintro e w6 ⟨rfl, m, rfl⟩
    go_wp2
    go_ret
    exact ⟨rfl, below_drewN (b04.trans (b5.mono b04.size)) m⟩
  · have hgt : (1048576 : Int) < (n : Int) := by omega
    go_enter Tryd.func9, Tryd.ntmps9
    go_wp2
    go_ret
    exact ⟨rfl, Below.refl _ _⟩
end Go.Proofs.YtpopefopmbmgaaaDoor
