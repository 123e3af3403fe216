/- What the laws' own functions on disks answer. -/
import Derived.Test.YtfpgobkedfhakaaOpenDisk
import Derived.Test.YtfpgobkedfhakaaRowLaws
namespace Go.Proofs.Ytfpgobkedfhakaa.Harn
open Go.RowKit Go.Proofs.Ytfpgobkedfhakaa.Mem Go.Proofs.Ytfpgobkedfhakaa.Mark

theorem row_strs {W : World} {g : Nat} {l : List ByteArray} {T : TypeId} (h : HasRow W g (l.map Value.string) T) : StrsAt W g 0 l := fun j hj => by
  refine ⟨?_, by rw [Mem.frozen_of_row h]⟩
  rw [Mem.cell_of_row h]
  simp [hj]

theorem PendsAt.other {W : World} {g o : Nat} {l : List (Int × ByteArray)} (h : PendsAt W g o l) {a : Addr} (ha : a.block ≠ g) (v : Value) : PendsAt (W.setCell a v) g o l := fun j hj => by
  obtain ⟨h1, h2, h3, h4⟩ := h j hj
  refine ⟨?_, ?_, by simpa using h3, by simpa using h4⟩
  · rw [World.cell?_setCell_other _ _ _ _ (by intro e; exact ha (by rw [e]))]; exact h1
  · rw [World.cell?_setCell_other _ _ _ _ (by intro e; exact ha (by rw [e]))]; exact h2

end Go.Proofs.Ytfpgobkedfhakaa.Harn
