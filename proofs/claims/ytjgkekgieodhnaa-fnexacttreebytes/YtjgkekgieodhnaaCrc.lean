/- What the CRC functions of the program and of the model answer, by contracts. -/
import Derived.Test.YtjgkekgieodhnaaRows
import Derived.Test.YtjgkekgieodhnaaCrcPure
import Derived.WalkKit
import Derived.Below
namespace Go.Proofs.Ytjgkekgieodhnaa.Crc
open Go.RowKit

theorem ret_int {k : IntKind} {a b : Int} (h : a = b) : Ending.returned (.int k a) = .returned (.int k b) := by rw [h]
theorem val_int {k : IntKind} {a b : Int} (h : a = b) : Value.int k a = .int k b := by rw [h]
theorem at_lt (s : ByteArray) (k : Nat) (h : k < s.size) : s[k]?.getD 0 = s[k] := by simp [h]

theorem max32 : IntKind.u32.max = 4294967295 := by simp [IntKind.max, IntKind.bits, IntKind.signed]

end Go.Proofs.Ytjgkekgieodhnaa.Crc
