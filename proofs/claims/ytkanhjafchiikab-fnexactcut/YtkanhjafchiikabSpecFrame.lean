/- What the model's look at a frame answers. -/
import Derived.Test.YtkanhjafchiikabTextsE
import Derived.Test.YtkanhjafchiikabSpecSpread2
namespace Go.Proofs.Ytkanhjafchiikab.Frm
open Go.RowKit Go.Proofs.Ytkanhjafchiikab.Mem Go.Proofs.Ytkanhjafchiikab.Gf Go.Proofs.Ytkanhjafchiikab.Harn

theorem isB_call {n l h : Int} {b : Bool} (e : isB n l h = b) (W : World) : Calls Try.prog 9 #[.int .i64 n, .int .i64 l, .int .i64 h] W fun e w' => e = .returned (.bool b) ∧ w' = W := by
  subst e; exact (l05Is_any n l h W).mono fun _ _ h => ⟨h.1, h.2.symm⟩
theorem fine_call {n m s : Int} {b : Bool} (e : fineB n m s = b) (W : World) : Calls Try.prog 10 #[.int .i64 n, .int .i64 m, .int .i64 s] W fun e w' => e = .returned (.bool b) ∧ w' = W := by
  subst e; exact (specFine_any n m s W).mono fun _ _ h => ⟨h.1, h.2.symm⟩
theorem long_call {n s : Nat} (h : 0 < n) (hn : n ≤ 100) (hs : s ≤ 1000) (W : World) : Calls Try.prog 21 #[.int .i64 (n : Nat), .int .i64 (s : Nat)] W fun e w' => e = .returned (.int .i64 (plen n s : Nat)) ∧ w' = W :=
  (specLong_any n s W h hn hs).mono fun _ _ h => ⟨h.1, h.2.symm⟩
theorem ret_bool {a b : Bool} (h : a = b) : Ending.returned (.bool a) = .returned (.bool b) := by rw [h]

end Go.Proofs.Ytkanhjafchiikab.Frm
