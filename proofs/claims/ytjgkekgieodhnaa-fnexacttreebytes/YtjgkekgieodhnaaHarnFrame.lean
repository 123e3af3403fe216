/- What the laws' own functions on frames answer. -/
import Derived.Test.YtjgkekgieodhnaaFramePure
import Derived.Test.YtjgkekgieodhnaaHarnPend2
import Derived.Deep.RegionHeld3
import Derived.Deep.QuietTactic
import Derived.BigQuiet
namespace Go.Proofs.Ytjgkekgieodhnaa.Frm
open Go.RowKit Go.Proofs.Ytjgkekgieodhnaa.Mem Go.Proofs.Ytjgkekgieodhnaa.Gf Go.Proofs.Ytjgkekgieodhnaa.Harn

end Go.Proofs.Ytjgkekgieodhnaa.Frm
