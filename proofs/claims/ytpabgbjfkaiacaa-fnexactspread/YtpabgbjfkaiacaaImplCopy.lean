/- What the program's hasSector, copyTexts and copyDisk answer. -/
import Derived.Test.YtpabgbjfkaiacaaOwnDisk2
import Derived.Test.YtpabgbjfkaiacaaJoin
import Derived.Test.YtpabgbjfkaiacaaSpecDiskRight
import Derived.Deep.DrawnRows
namespace Go.Proofs.Ytpabgbjfkaiacaa.Disk
open Go.RowKit Go.Proofs.Ytpabgbjfkaiacaa.Mem Go.Proofs.Ytpabgbjfkaiacaa.Harn

end Go.Proofs.Ytpabgbjfkaiacaa.Disk
