/- What the laws on the disk's functions lean on: boxes, and what is kept in them. -/
import Derived.Test.YtncooabjacpjbaaLawNew
namespace Go.Proofs.Ytncooabjacpjbaa.Disk
open Go.RowKit Go.Proofs.Ytncooabjacpjbaa.Mem Go.Proofs.Ytncooabjacpjbaa.Harn Go.Proofs.Ytncooabjacpjbaa.DiskP Go.Proofs.Ytncooabjacpjbaa.Mark

/-- A box that holds what was told. -/
def BoxO (W : World) (g : Nat) (vs vp : Value) (t : ByteArray) (c : Int) : Prop := HasRow W g [vs, vp, .string t, .int .i64 c] 49
theorem BoxO.cells {W : World} {g : Nat} {vs vp : Value} {t : ByteArray} {c : Int} (h : BoxO W g vs vp t c) : W.cell? ⟨g, 0, none⟩ = some vs ∧ W.cell? ⟨g, 1, none⟩ = some vp ∧ W.cell? ⟨g, 2, none⟩ = some (.string t) ∧ W.cell? ⟨g, 3, none⟩ = some (.int .i64 c) := ⟨Mem.cell_of_row h 0, Mem.cell_of_row h 1, Mem.cell_of_row h 2, Mem.cell_of_row h 3⟩
theorem BoxO.below {W W' : World} {g B : Nat} {vs vp : Value} {t : ByteArray} {c : Int} (h : BoxO W g vs vp t c) (hb : Below B W W') (hg : g < B) : BoxO W' g vs vp t c := Sha.row_below h hb hg
theorem BoxO.only {p : Nat → Prop} {W W' : World} {g : Nat} {vs vp : Value} {t : ByteArray} {c : Int} (h : BoxO W g vs vp t c) (hg : Only p W W') (hp : ¬ p g) : BoxO W' g vs vp t c := hg.row h hp
theorem BoxO.alloc {W : World} {g : Nat} {vs vp : Value} {t : ByteArray} {c : Int} (h : BoxO W g vs vp t c) (o : Obj) : BoxO (W.alloc o) g vs vp t c := Sha.row_alloc h o
theorem boxO_at (w : World) (vs vp : Value) (t : ByteArray) (c : Int) : BoxO (w.alloc (.cells #[vs, vp, .string t, .int .i64 c] 49)) w.heap.size vs vp t c := Sha.row_new w [vs, vp, .string t, .int .i64 c] 49
theorem Box25.only {p : Nat → Prop} {W W' : World} {g : Nat} {vs vp : Value} (h : Box25 W g vs vp) (hg : Only p W W') (hp : ¬ p g) : Box25 W' g vs vp := hg.row h hp
theorem Box25.alloc {W : World} {g : Nat} {vs vp : Value} (h : Box25 W g vs vp) (o : Obj) : Box25 (W.alloc o) g vs vp := Sha.row_alloc h o
theorem box25_at (w : World) (vs vp : Value) : Box25 (w.alloc (.cells #[vs, vp] 25)) w.heap.size vs vp := Sha.row_new w [vs, vp] 25
theorem bself {w : World} (o : Obj) : Below w.heap.size w (w.alloc o) := (Below.refl _ _).alloc (Nat.le_refl _) _

theorem readO_len {ls : List ByteArray} {lp : List (Int × ByteArray)} (x : Int) (h : Fits ls lp) : (readO ls lp x).ls.length ≤ 1100000 ∧ (readO ls lp x).lp.length ≤ 1100000 := by
  unfold readO
  split
  · split
    · exact ⟨h.n, h.m⟩
    · exact ⟨by simp [ill], by simp [ill]⟩
  · exact ⟨by simp [ill], by simp [ill]⟩
theorem flushO_len {ls : List ByteArray} {lp : List (Int × ByteArray)} (h : Fits ls lp) : (flushO ls lp).ls.length ≤ 1100000 ∧ (flushO ls lp).lp.length ≤ 1100000 := by
  unfold flushO
  split
  · exact ⟨by simp only [length_flushD]; exact h.n, by simp⟩
  · exact ⟨by simp [ill], by simp [ill]⟩
theorem writeO_len {ls : List ByteArray} {lp : List (Int × ByteArray)} (x : Int) (t : ByteArray) (h : Fits ls lp) : (writeO ls lp x t).ls.length ≤ 1100000 ∧ (writeO ls lp x t).lp.length ≤ 1100000 := by
  unfold writeO
  split
  · exact ⟨by simp [ill], by simp [ill]⟩
  · split
    · exact ⟨by simp [ill], by simp [ill]⟩
    · rename_i hr
      split
      · exact ⟨by simp [ill], by simp [ill]⟩
      · split
        · exact ⟨by simp [ill], by simp [ill]⟩
        · refine ⟨h.n, ?_⟩
          have hr2 : rightB ls lp = true := by cases e : rightB ls lp with | true => rfl | false => exact absurd (.inl e) hr
          have := ((right_iff ls lp).1 hr2).2.2.1
          simp; omega
end Go.Proofs.Ytncooabjacpjbaa.Disk
