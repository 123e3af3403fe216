/- What the laws' own functions answer that weigh, mark and look at a disk. -/
import Derived.Test.YtfpgobkedfhakaaHarnSize
namespace Go.Proofs.Ytfpgobkedfhakaa.Harn
open Go.RowKit Go.Proofs.Ytfpgobkedfhakaa.Mem Go.Proofs.Ytfpgobkedfhakaa.Mark

/-- What a disk weighs. -/
def wtD (ls : List ByteArray) (lp : List (Int × ByteArray)) : Nat := ls.length + wt ls + (lp.length + wtP lp)

theorem far_cell {W W' : World} {row : Option Nat} (hg : W.grownBy W' row) (a : Addr) (hlt : a.block < W.heap.size) (hne : some a.block ≠ row) : W'.cell? a = W.cell? a := by
  unfold World.cell?
  rw [hg.block a.block hlt hne]
theorem far_frozen {W W' : World} {row : Option Nat} (hg : W.grownBy W' row) (a : Addr) (hlt : a.block < W.heap.size) (hne : some a.block ≠ row) : W'.frozen? a = W.frozen? a := by
  unfold World.frozen?
  rw [hg.block a.block hlt hne]

/-- What a function left that wrote into one block alone. -/
theorem StrsAt.grown {W W' : World} {b g o : Nat} {l : List ByteArray} (h : StrsAt W g o l) (hg : W.grownBy W' (some b)) (hn : g ≠ b) : StrsAt W' g o l := fun j hj => by
  obtain ⟨h1, h2⟩ := h j hj
  have hlt := World.block_lt_of_cell? W _ h1
  have hne : some g ≠ some b := fun e => hn (Option.some.inj e)
  exact ⟨(far_cell hg _ hlt hne).trans h1, (far_frozen hg _ hlt hne).trans h2⟩
theorem PendsAt.grown {W W' : World} {b g o : Nat} {l : List (Int × ByteArray)} (h : PendsAt W g o l) (hg : W.grownBy W' (some b)) (hn : g ≠ b) : PendsAt W' g o l := fun j hj => by
  obtain ⟨h1, h2, h3, h4⟩ := h j hj
  have hlt := World.block_lt_of_cell? W _ h1
  have hne : some g ≠ some b := fun e => hn (Option.some.inj e)
  exact ⟨(far_cell hg ⟨g, o + j * 2, none⟩ hlt hne).trans h1, (far_cell hg ⟨g, o + j * 2 + 1, none⟩ hlt hne).trans h2, (far_frozen hg ⟨g, o + j * 2, none⟩ hlt hne).trans h3, (far_frozen hg ⟨g, o + j * 2 + 1, none⟩ hlt hne).trans h4⟩

end Go.Proofs.Ytfpgobkedfhakaa.Harn
