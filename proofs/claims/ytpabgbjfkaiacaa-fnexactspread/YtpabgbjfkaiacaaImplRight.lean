/- What the program's DiskRight answers. -/
import Derived.Test.YtpabgbjfkaiacaaImplCopyD
namespace Go.Proofs.Ytpabgbjfkaiacaa.Disk
open Go.RowKit Go.Proofs.Ytpabgbjfkaiacaa.Mem Go.Proofs.Ytpabgbjfkaiacaa.Harn

end Go.Proofs.Ytpabgbjfkaiacaa.Disk
