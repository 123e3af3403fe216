/- What the model's look at a frame answers. -/
import Derived.Test.YtjgkekgieodhnaaHarnFrame
import Derived.Test.YtjgkekgieodhnaaSpecSpread2
namespace Go.Proofs.Ytjgkekgieodhnaa.Frm
open Go.RowKit Go.Proofs.Ytjgkekgieodhnaa.Mem Go.Proofs.Ytjgkekgieodhnaa.Gf Go.Proofs.Ytjgkekgieodhnaa.Harn

theorem isB_call {n l h : Int} {b : Bool} (e : isB n l h = b) (W : World) : Calls Try.prog 50 #[.int .i64 n, .int .i64 l, .int .i64 h] W fun e w' => e = .returned (.bool b) ∧ w' = W := by
  subst e; exact (l05Is_any n l h W).mono fun _ _ h => ⟨h.1, h.2.symm⟩
theorem ret_bool {a b : Bool} (h : a = b) : Ending.returned (.bool a) = .returned (.bool b) := by rw [h]

end Go.Proofs.Ytjgkekgieodhnaa.Frm
