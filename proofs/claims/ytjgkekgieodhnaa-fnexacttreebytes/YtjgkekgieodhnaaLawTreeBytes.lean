/- The law on TreeBytes. -/
import Derived.Test.YtjgkekgieodhnaaImplTB
import Derived.Test.YtjgkekgieodhnaaLawTreeRight
import Derived.Deep.RegionHeld3
import Derived.Test.YtjgkekgieodhnaaCutCall
namespace Go.Proofs.Ytjgkekgieodhnaa.Tre
open Go.RowKit Go.Proofs.Ytjgkekgieodhnaa.Mem Go.Proofs.Ytjgkekgieodhnaa.Gf Go.Proofs.Ytjgkekgieodhnaa.Harn Go.Proofs.Ytjgkekgieodhnaa.Mark

end Go.Proofs.Ytjgkekgieodhnaa.Tre
