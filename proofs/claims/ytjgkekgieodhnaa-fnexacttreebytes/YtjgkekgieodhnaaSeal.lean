/- What the two Seal functions answer, by contracts. -/
import Derived.Test.YtjgkekgieodhnaaRows
import Derived.Test.YtjgkekgieodhnaaCrc
import Derived.Test.YtjgkekgieodhnaaFour
namespace Go.Proofs.Ytjgkekgieodhnaa.Seal
open Go.RowKit Go.Proofs.Ytjgkekgieodhnaa.Mem Go.Proofs.Ytjgkekgieodhnaa.Four Go.Proofs.Ytjgkekgieodhnaa.Crc

/-- The seal of a text of at most 7996 bytes. -/
def sealB (s : ByteArray) : ByteArray := s ++ fourB (crcOf 0 s)

theorem size_sealB (s : ByteArray) : (sealB s).size = s.size + 4 := by simp [sealB, ByteArray.size_append, size_fourB]

end Go.Proofs.Ytjgkekgieodhnaa.Seal
