/- What the program's copyDisk answers. -/
import Derived.Test.YtpabgbjfkaiacaaImplCopy
import Derived.Test.YtpabgbjfkaiacaaSpecCopy
namespace Go.Proofs.Ytpabgbjfkaiacaa.Disk
open Go.RowKit Go.Proofs.Ytpabgbjfkaiacaa.Mem Go.Proofs.Ytpabgbjfkaiacaa.Harn

theorem row_lt {W : World} {g : Nat} {cs : List Value} {e : TypeId} (hr : HasRow W g cs e) : g < W.heap.size := by
  rcases Nat.lt_or_ge g W.heap.size with hlt | hge
  · exact hlt
  · unfold HasRow at hr; rw [Array.getElem?_eq_none hge] at hr; cases hr

end Go.Proofs.Ytpabgbjfkaiacaa.Disk
