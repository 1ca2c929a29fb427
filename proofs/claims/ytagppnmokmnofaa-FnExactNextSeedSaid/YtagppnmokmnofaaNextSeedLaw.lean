/- What is proved here: the law on NextSeed returns true at every integer, and writes nothing that was there. No conditions. -/
import Derived.Test.YtagppnmokmnofaaClockA
namespace Go.Proofs.Ytagppnmokmnofaa
open Go.RowKit

theorem lawNextSeed (s : Int) (w : World) :
    Calls Try.prog 5 #[.int .i64 s] w fun e w' => e = .returned (.bool true) ∧ w = w' := by
  have hq1 : (nextI s != nextI s) = false := by simp
  have hq2 : (seedB s != seedB s) = false := by simp
  go_enter Try.func5, Try.ntmps5
  go_wp2_with (first
    | (go_at_call 26; refine (specNext_any _ _).mono ?_; rintro e w' ⟨rfl, rfl⟩)
    | (go_at_call 25; refine (implNext_any _ _).mono ?_; rintro e w' ⟨rfl, rfl⟩))
  go_ret
  exact ⟨rfl, rfl⟩
end Go.Proofs.Ytagppnmokmnofaa
