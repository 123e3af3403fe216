/- The law on FileOf. -/
import Derived.Test.YtfpgobkedfhakaaFileOf
import Derived.Test.YtfpgobkedfhakaaLawTreeRight
import Derived.Deep.RegionHeld3
import Derived.Test.YtfpgobkedfhakaaCutCall
namespace Go.Proofs.Ytfpgobkedfhakaa.Tre
open Go.RowKit Go.Proofs.Ytfpgobkedfhakaa.Mem Go.Proofs.Ytfpgobkedfhakaa.Gf Go.Proofs.Ytfpgobkedfhakaa.Harn Go.Proofs.Ytfpgobkedfhakaa.Mark

theorem row_lt {W : World} {g : Nat} {cs : List Value} {e : TypeId} (h : HasRow W g cs e) : g < W.heap.size := by
  rcases Nat.lt_or_ge g W.heap.size with h1 | h1
  · exact h1
  · unfold HasRow at h; rw [Array.getElem?_eq_none h1] at h; cases h
theorem row_keep {W W' : World} {g : Nat} {cs : List Value} {e : TypeId} (h : HasRow W g cs e) (hb : Below W.heap.size W W') : HasRow W' g cs e := Sha.row_below h hb (row_lt h)
theorem bnew (W : World) (o : Obj) : Below W.heap.size W (W.alloc o) := (Below.refl _ _).alloc (Nat.le_refl _) _
end Go.Proofs.Ytfpgobkedfhakaa.Tre
