/- What the model's bytes of a frame are. -/
import Derived.Test.YtjgkekgieodhnaaFrameTexts
import Derived.Test.YtjgkekgieodhnaaSpecFrame
import Derived.Deep.RegionHeld3
namespace Go.Proofs.Ytjgkekgieodhnaa.Frm
open Go.RowKit Go.Proofs.Ytjgkekgieodhnaa.Mem Go.Proofs.Ytjgkekgieodhnaa.Gf Go.Proofs.Ytjgkekgieodhnaa.Harn

theorem cat_eight (a b c d e f g h : ByteArray) : catB [a, b, c, d, e, f, g, h] = a ++ b ++ c ++ d ++ e ++ f ++ g ++ h := by
  apply ByteArray.ext; simp [catB]
theorem bself' {w : World} (o : Obj) : Below w.heap.size w (w.alloc o) := (Below.refl _ _).alloc (Nat.le_refl _) _
theorem bD' {w W : World} (h : Below w.heap.size w W) : Below w.heap.size w W.drew := Sha.bel_drewN h 1

end Go.Proofs.Ytjgkekgieodhnaa.Frm
