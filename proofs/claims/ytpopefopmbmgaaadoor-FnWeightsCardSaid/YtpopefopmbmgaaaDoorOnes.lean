/- What is proved here: what the count of bits returns, at every mask of ten bits. No conditions beside that bound. -/
import Derived.Test.YtpopefopmbmgaaaDoorOfWalks
namespace Go.Proofs.YtpopefopmbmgaaaDoor
open Go.RowKit

def ones1 (x : Int) : Int := IntKind.u64.wrap (bits .and .u64 (x / 2) 6148914691236517205 + bits .and .u64 x 6148914691236517205)
def ones2 (x : Int) : Int := IntKind.u64.wrap (bits .and .u64 (x / 4) 3689348814741910323 + bits .and .u64 x 3689348814741910323)
def ones3 (x : Int) : Int := bits .and .u64 (IntKind.u64.wrap (x / 16 + x)) 1085102592571150095
def ones4 (x : Int) : Int := IntKind.u64.wrap (x + x / 256)
def ones5 (x : Int) : Int := IntKind.u64.wrap (x + x / 65536)
def ones6 (x : Int) : Int := IntKind.u64.wrap (x + x / 4294967296)
def ones7 (x : Int) : Int := bits .and .i64 (wrap64 x) 127
def onesE (x : Int) : Int := ones7 (ones6 (ones5 (ones4 (ones3 (ones2 (ones1 x))))))
theorem ones_eq : ∀ m : Nat, m < 1024 → onesE (m : Int) = ((ofL m 10).length : Int) := by decide +kernel

set_option maxHeartbeats 400000 in
set_option maxRecDepth 100000 in
theorem ones64_any (m : Nat) (w : World) (hm : m < 1024) :
    Calls Tryd.prog 68 #[.int .u64 (m : Int)] w fun e w' => e = .returned (.int .i64 ((ofL m 10).length : Int)) ∧ w = w' := by
  have he := Lib.hid (ones_eq m hm)
  go_enter Tryd.func68, Tryd.ntmps68
  go_wp2
  go_ret
  refine ⟨?_, rfl⟩
  rw [← he.out]
  rfl

def cnt (m : Nat) : Nat := (ofL m 10).length
theorem cnt_le (m : Nat) : cnt m ≤ 10 := ofL_len _ _
theorem countVoters_any (m : Nat) (w : World) (hm : m < 1024) :
    Calls Tryd.prog 60 #[.int .i64 (m : Int)] w fun e w' => e = .returned (.int .i64 (cnt m : Int)) ∧ w = w' := by
  go_enter Tryd.func60, Tryd.ntmps60
  go_wp2_with (first
    | (go_at_call 68; refine (ones64_any m _ hm).mono ?_; rintro e w' ⟨rfl, rfl⟩)
    | go_in)
  go_ret
  exact ⟨rfl, rfl⟩
end Go.Proofs.YtpopefopmbmgaaaDoor
