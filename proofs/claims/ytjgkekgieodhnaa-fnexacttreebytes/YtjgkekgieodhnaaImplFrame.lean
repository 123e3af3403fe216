/- What the program's look at a frame answers. -/
import Derived.Test.YtjgkekgieodhnaaSpecFrame
import Derived.Test.YtjgkekgieodhnaaImplShards
namespace Go.Proofs.Ytjgkekgieodhnaa.Frm
open Go.RowKit Go.Proofs.Ytjgkekgieodhnaa.Mem Go.Proofs.Ytjgkekgieodhnaa.Gf Go.Proofs.Ytjgkekgieodhnaa.Harn

end Go.Proofs.Ytjgkekgieodhnaa.Frm
