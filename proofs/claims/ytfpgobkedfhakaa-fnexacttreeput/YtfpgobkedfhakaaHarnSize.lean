/- What the laws' own functions that weigh a disk answer. -/
import Derived.Test.YtfpgobkedfhakaaSpecDiskRight
namespace Go.Proofs.Ytfpgobkedfhakaa.Harn
open Go.RowKit Go.Proofs.Ytfpgobkedfhakaa.Mem Go.Proofs.Ytfpgobkedfhakaa.Mark

/-- What a list of pending writes weighs. -/
def wtP (l : List (Int × ByteArray)) : Nat := wt (l.map (·.2))
theorem wtP_take (l : List (Int × ByteArray)) (k : Nat) (h : k < l.length) : wtP (l.take (k + 1)) = wtP (l.take k) + l[k].2.size := by
  unfold wtP
  rw [List.take_succ_eq_append_getElem h, List.map_append, wt_append]
  simp [wt]
theorem wtP_le (l : List (Int × ByteArray)) (k : Nat) : wtP (l.take k) ≤ wtP l := by
  unfold wtP
  rw [List.map_take]
  exact wt_le _ _

end Go.Proofs.Ytfpgobkedfhakaa.Harn
