/- Rows behind new blocks, stores elsewhere, draws and calls. -/
import Derived.Test.YtfpgobkedfhakaaRowWhole
import Derived.Deep.Draws
namespace Go.Proofs.Ytfpgobkedfhakaa.Sha
open Go.RowKit Go.Proofs.Ytfpgobkedfhakaa.Mem

theorem bel_cell {w wr : World} (h : Below w.heap.size w wr) {p : Addr} {v : Value} (hc : w.cell? p = some v) : wr.cell? p = some v := by
  rw [h.cell (World.block_lt_of_cell? w p hc)]; exact hc

theorem bel_drewN {B : Nat} {a w : World} (h : Below B a w) (n : Nat) : Below B a (w.drewN n) := ⟨h.os, h.tape, h.output, h.size, h.block⟩

theorem row_new (w : World) (cs : List Value) (e : TypeId) : HasRow (w.alloc (.cells cs.toArray e)) w.heap.size cs e := by
  show (w.heap.push _)[w.heap.size]? = _
  simp
theorem row_new_at (w : World) (cs : List Value) (e : TypeId) (g : Nat) (hg : g = w.heap.size) : HasRow (w.alloc (.cells cs.toArray e)) g cs e := by subst hg; exact row_new w cs e
theorem row_alloc {w : World} {g : Nat} {cs : List Value} {e : TypeId} (h : HasRow w g cs e) (o : Obj) : HasRow (w.alloc o) g cs e := by
  unfold HasRow at h ⊢
  obtain ⟨hl, _⟩ := Array.getElem?_eq_some_iff.1 h
  rw [Below.heap_alloc w o g hl]
  exact h
theorem row_other {w : World} {g : Nat} {cs : List Value} {e : TypeId} (h : HasRow w g cs e) (a : Addr) (v : Value) (hg : g ≠ a.block) : HasRow (w.setCell a v) g cs e := by
  unfold HasRow at h ⊢
  rw [Below.heap_setCell w a v g hg]
  exact h
theorem row_drew {w : World} {g : Nat} {cs : List Value} {e : TypeId} (h : HasRow w g cs e) : HasRow w.drew g cs e := h
theorem row_drewN {w : World} {g : Nat} {cs : List Value} {e : TypeId} (h : HasRow w g cs e) (n : Nat) : HasRow (w.drewN n) g cs e := h

theorem row_far {W W' : World} {g k : Nat} {cs : List Value} {e : TypeId} (h : HasRow W k cs e) (hoth : ∀ k, k ≠ g → W'.heap[k]? = W.heap[k]?) (hk : k ≠ g) : HasRow W' k cs e := by
  unfold HasRow at h ⊢
  rw [hoth k hk]; exact h
theorem row_below {W W' : World} {B k : Nat} {cs : List Value} {e : TypeId} (h : HasRow W k cs e) (hb : Below B W W') (hk : k < B) : HasRow W' k cs e := by
  unfold HasRow at h ⊢
  rw [hb.block k hk]; exact h
end Go.Proofs.Ytfpgobkedfhakaa.Sha
