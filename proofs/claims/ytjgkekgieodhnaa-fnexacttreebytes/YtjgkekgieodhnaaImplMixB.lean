/- What the program's mix of bytes answers. -/
import Derived.Test.YtjgkekgieodhnaaImplCount
import Derived.Test.YtjgkekgieodhnaaJoin
namespace Go.Proofs.Ytjgkekgieodhnaa.Gf
open Go.RowKit Go.Proofs.Ytjgkekgieodhnaa.Mem

theorem wrapI {a : Nat} (h : a < 256) : IntKind.i64.wrap (a : Int) = a := by rw [IntKind.wrap_i64]; omega
theorem wrapB {a : Nat} (h : a < 256) : IntKind.u8.wrap (a : Int) = a := by rw [IntKind.wrap_u8']; omega
theorem xorB {a b : Nat} (ha : a < 256) (hb : b < 256) : bits .xor .u8 (a : Int) (b : Int) = ((a ^^^ b : Nat) : Int) := u8_xor_nat a b ha hb

end Go.Proofs.Ytjgkekgieodhnaa.Gf
