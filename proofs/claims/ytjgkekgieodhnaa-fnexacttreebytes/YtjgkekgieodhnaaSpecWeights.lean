/- What the model's weights answer. -/
import Derived.Test.YtjgkekgieodhnaaGfLine
import Derived.Deep.RegionHeld3
namespace Go.Proofs.Ytjgkekgieodhnaa.Gf
open Go.RowKit Go.Proofs.Ytjgkekgieodhnaa.Mem

theorem xorN {a b : Nat} (ha : a < 256) (hb : b < 256) : bits .xor .i64 (a : Int) (b : Int) = ((a ^^^ b : Nat) : Int) := xor64 (by omega) (by omega)
theorem getD_at {xs : List Nat} {j : Nat} (h : j < xs.length) : xs.getD j 0 = xs[j] := by simp [List.getD, h]

end Go.Proofs.Ytjgkekgieodhnaa.Gf
