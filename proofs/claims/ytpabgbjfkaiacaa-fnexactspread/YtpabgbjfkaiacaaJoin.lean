/- What the program's join answers: the two texts in one, in new memory. -/
import Derived.Test.YtpabgbjfkaiacaaRows
import Derived.Test.YtpabgbjfkaiacaaMemLaws
namespace Go.Proofs.Ytpabgbjfkaiacaa.Join
open Go.RowKit Go.Proofs.Ytpabgbjfkaiacaa.Mem
theorem info8 : (Try.prog.info? 5).map (fun i => (i.zero, i.size, i.bytes)) = some (some (.int .u8 0), 1, 1) := by kernel_rfl
theorem under : Try.prog.underlying 55 = some (.slice 5) := by kernel_rfl
theorem underS : Try.prog.underlying 9 = some .string := by kernel_rfl
theorem under8 : Try.prog.underlying 5 = some (.int .u8) := by kernel_rfl

end Go.Proofs.Ytpabgbjfkaiacaa.Join
