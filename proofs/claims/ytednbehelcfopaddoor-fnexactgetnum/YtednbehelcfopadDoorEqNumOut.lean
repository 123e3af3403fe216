/- Two answers that are the same are told the same. -/
import Derived.Test.YtednbehelcfopadDoorRows
import Derived.WalkKit
import Derived.Below
namespace Go.Proofs.YtednbehelcfopadDoor.EqNumOut
open Go.RowKit

set_option maxHeartbeats 400000 in
theorem eqNumOut_same (x y z : Int) (w : World) :
    Calls Tryd.prog 7 #[.agg #[.int .i64 x, .int .i64 y, .int .i64 z], .agg #[.int .i64 x, .int .i64 y, .int .i64 z]] w fun e w' => e = .returned (.bool true) ∧ Below w.heap.size w w' := by
  go_enter Tryd.func7, Tryd.ntmps7
  go_wp2
  go_ret
  exact ⟨rfl, ((Below.refl _ _).alloc (Nat.le_refl _) _).alloc (by simp) _⟩
end Go.Proofs.YtednbehelcfopadDoor.EqNumOut
