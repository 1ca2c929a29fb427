/- What is proved here: what the model's functions on stakes, the law's copy and its comparison return, at every slice of integers. No conditions. -/
import Derived.Test.YtidlelkckkidbaaWalksA
import Derived.RegionTactic
namespace Go.Proofs.Ytidlelkckkidbaa
open Go.RowKit

theorem info3 : (Try.prog.info? 3).map (fun i => (i.zero, i.size, i.bytes)) = some (some (.int .i64 0), 1, 8) := by kernel_rfl

end Go.Proofs.Ytidlelkckkidbaa
