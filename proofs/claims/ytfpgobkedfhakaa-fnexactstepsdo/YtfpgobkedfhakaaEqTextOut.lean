/- Two answers that are the same are told the same. -/
import Derived.Test.YtfpgobkedfhakaaRows
import Derived.WalkKit
import Derived.Below
namespace Go.Proofs.Ytfpgobkedfhakaa.EqTextOut
open Go.RowKit

set_option maxHeartbeats 400000 in
theorem eqTextOut_same (t : ByteArray) (x y : Int) (w : World) :
    Calls Try.prog 34 #[.agg #[.string t, .int .i64 x, .int .i64 y], .agg #[.string t, .int .i64 x, .int .i64 y]] w fun e w' => e = .returned (.bool true) ∧ Below w.heap.size w w' := by
  go_enter Try.func34, Try.ntmps34
  go_wp2
  go_ret
  exact ⟨rfl, ((Below.refl _ _).alloc (Nat.le_refl _) _).alloc (by simp) _⟩
end Go.Proofs.Ytfpgobkedfhakaa.EqTextOut
