/- Boxes of the call's own; what a right disk holds. -/
import Derived.Test.YtncooabjacpjbaaDiskOuts
namespace Go.Proofs.Ytncooabjacpjbaa.Disk
open Go.RowKit Go.Proofs.Ytncooabjacpjbaa.Mem Go.Proofs.Ytncooabjacpjbaa.Harn Go.Proofs.Ytncooabjacpjbaa.DiskP

theorem right_pends {ls : List ByteArray} {lp : List (Int × ByteArray)} (h : rightB ls lp = true) : (∀ y ∈ lp, 0 ≤ y.1 ∧ y.1 < 64) ∧ (∀ y ∈ lp, 0 ≤ y.1 ∧ y.2.size ≤ 2000000) ∧ (∀ t ∈ ls, t.size ≤ 2000000) ∧ 1 ≤ ls.length ∧ ls.length ≤ 64 ∧ lp.length ≤ 200 ∧ ∀ y ∈ lp, y.2.size ≤ 2000000 := by
  obtain ⟨h1, h2, h3, h4, h5⟩ := (right_iff ls lp).1 h
  refine ⟨fun y hy => ?_, fun y hy => ?_, fun t ht => ?_, h1, h2, h3, fun y hy => ?_⟩
  · have := h5 y hy; unfold okP at this; omega
  · have := h5 y hy; unfold okP at this; omega
  · have := h4 t ht; omega
  · have := h5 y hy; unfold okP at this; omega

theorem strs_replicate {W : World} {g n : Nat} {T : TypeId} (h : HasRow W g (List.replicate n (.string ByteArray.empty)) T) : StrsAt W g 0 (List.replicate n ByteArray.empty) := row_strs (T := T) (by simpa using h)

/-- The cells of a disk's box, of a box for what is told. -/
def Box2 (W : World) (g : Nat) (vs vp : Value) : Prop := HasRow W g [vs, vp] 30
def Box4 (W : World) (g : Nat) : Prop := HasRow W g [.slice none 0 0, .slice none 0 0, .string ByteArray.empty, .int .i64 0] 49
theorem Box2.cells {W : World} {g : Nat} {vs vp : Value} (h : Box2 W g vs vp) : W.cell? ⟨g, 0, none⟩ = some vs ∧ W.cell? ⟨g, 1, none⟩ = some vp ∧ (∀ o, W.frozen? ⟨g, o, none⟩ = false) := ⟨Mem.cell_of_row h 0, Mem.cell_of_row h 1, Mem.frozen_of_row h⟩
theorem Box4.cells {W : World} {g : Nat} (h : Box4 W g) : W.cell? ⟨g, 0, none⟩ = some (.slice none 0 0) ∧ W.cell? ⟨g, 1, none⟩ = some (.slice none 0 0) ∧ W.cell? ⟨g, 2, none⟩ = some (.string ByteArray.empty) ∧ W.cell? ⟨g, 3, none⟩ = some (.int .i64 0) ∧ (∀ o, W.frozen? ⟨g, o, none⟩ = false) := ⟨Mem.cell_of_row h 0, Mem.cell_of_row h 1, Mem.cell_of_row h 2, Mem.cell_of_row h 3, Mem.frozen_of_row h⟩
theorem box2_new (w : World) (vs vp : Value) (o : Obj) : Box2 ((w.alloc (.cells #[vs, vp] 30)).alloc o) w.heap.size vs vp := Sha.row_alloc (Sha.row_new w [vs, vp] 30) _
theorem box4_new (w : World) (o : Obj) : Box4 ((w.alloc o).alloc (.cells #[.slice none 0 0, .slice none 0 0, .string ByteArray.empty, .int .i64 0] 49)) (w.heap.size + 1) := Sha.row_new_at (w.alloc _) [.slice none 0 0, .slice none 0 0, .string ByteArray.empty, .int .i64 0] 49 _ (by simp)
theorem Box2.below {W W' : World} {g B : Nat} {vs vp : Value} (h : Box2 W g vs vp) (hb : Below B W W') (hg : g < B) : Box2 W' g vs vp := Sha.row_below h hb hg
theorem Box4.below {W W' : World} {g B : Nat} (h : Box4 W g) (hb : Below B W W') (hg : g < B) : Box4 W' g := Sha.row_below h hb hg

end Go.Proofs.Ytncooabjacpjbaa.Disk
