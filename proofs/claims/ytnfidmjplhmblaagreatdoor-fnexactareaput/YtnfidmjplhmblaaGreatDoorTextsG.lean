/- Laws that the proof rests on, put together: The law on DiskRight. A list of numbers that came in, opened; a disk that came in, opened. -/
import Derived.Test.YtnfidmjplhmblaaGreatDoorImplRight
/- The law on DiskRight. -/
namespace Go.Proofs.YtnfidmjplhmblaaGreatDoor.Disk
open Go.RowKit Go.Proofs.YtnfidmjplhmblaaGreatDoor.Mem Go.Proofs.YtnfidmjplhmblaaGreatDoor.Harn

theorem size_le_wt {l : List ByteArray} {t : ByteArray} (h : t ∈ l) : t.size ≤ wt l := by
  induction l with
  | nil => cases h
  | cons a l ih =>
    rcases List.mem_cons.1 h with rfl | h
    · unfold wt; omega
    · have := ih h; unfold wt; omega
theorem size_le_wtP {l : List (Int × ByteArray)} {y : Int × ByteArray} (h : y ∈ l) : y.2.size ≤ wtP l := by
  unfold wtP
  exact size_le_wt (List.mem_map_of_mem h)

/-- What is known of a disk that came in. -/
structure Came (w : World) (vs vp : Value) (ls : List ByteArray) (lp : List (Int × ByteArray)) : Prop where
  s : Strs w vs ls
  n : ls.length ≤ maxLen
  t : ∀ t ∈ ls, t.size ≤ maxLen
  p : Pends w vp lp
  m : lp.length ≤ maxLen
  y : ∀ y ∈ lp, y.2.size ≤ maxLen ∧ -9223372036854775808 ≤ y.1 ∧ y.1 ≤ 9223372036854775807

theorem Came.below {W W' : World} {vs vp : Value} {ls : List ByteArray} {lp : List (Int × ByteArray)} (h : Came W vs vp ls lp) (hb : Below W.heap.size W W') : Came W' vs vp ls lp :=
  ⟨Strs.below h.s hb, h.n, h.t, Pends.below h.p hb, h.m, h.y⟩
theorem Came.sz {w : World} {vs vp : Value} {ls : List ByteArray} {lp : List (Int × ByteArray)} (h : Came w vs vp ls lp) (left : Nat) (hl : left ≤ 1048576) : Calls Tryz.prog 4 #[.agg #[vs, vp], .int .i64 (left : Int)] w fun e w' => Below w.heap.size w w' ∧ ((∃ r : Nat, e = .returned (.int .i64 (r : Int)) ∧ r + wtD ls lp = left) ∨ (e = .returned (.int .i64 (-1)) ∧ left < wtD ls lp)) :=
  szDisk_any vs vp ls lp left w h.s h.p h.n h.m h.t (fun y hy => (h.y y hy).1) hl

/-- A disk that is not too great for the laws. -/
structure Fits (ls : List ByteArray) (lp : List (Int × ByteArray)) : Prop where
  n : ls.length ≤ 1100000
  m : lp.length ≤ 1100000
  t : ∀ t ∈ ls, t.size ≤ maxLen
  y : ∀ y ∈ lp, y.2.size ≤ maxLen ∧ -9223372036854775808 ≤ y.1 ∧ y.1 ≤ 9223372036854775807
  t2 : ∀ t ∈ ls, t.size ≤ 2000000
  y2 : ∀ y ∈ lp, y.2.size ≤ 2000000
theorem Came.fits {w : World} {vs vp : Value} {ls : List ByteArray} {lp : List (Int × ByteArray)} (h : Came w vs vp ls lp) (hw : wtD ls lp ≤ 1048576) : Fits ls lp := by
  unfold wtD at hw
  refine ⟨by omega, by omega, h.t, h.y, fun t ht => ?_, fun y hy => ?_⟩
  · have := size_le_wt ht; omega
  · have := size_le_wtP hy; omega

/-- The box of a disk that came in. -/
def Box25 (W : World) (g : Nat) (vs vp : Value) : Prop := HasRow W g [vs, vp] 25
theorem Box25.cells {W : World} {g : Nat} {vs vp : Value} (h : Box25 W g vs vp) : W.cell? ⟨g, 0, none⟩ = some vs ∧ W.cell? ⟨g, 1, none⟩ = some vp ∧ (∀ o, W.frozen? ⟨g, o, none⟩ = false) := ⟨Mem.cell_of_row h 0, Mem.cell_of_row h 1, Mem.frozen_of_row h⟩
theorem Box25.below {W W' : World} {g B : Nat} {vs vp : Value} (h : Box25 W g vs vp) (hb : Below B W W') (hg : g < B) : Box25 W' g vs vp := Sha.row_below h hb hg

end Go.Proofs.YtnfidmjplhmblaaGreatDoor.Disk

/- A list of numbers that came in, opened; a disk that came in, opened. -/
namespace Go.Proofs.YtnfidmjplhmblaaGreatDoor.Disk
open Go.ChangeShapes Go.WideShapes Go.ChangeAt Go.RowKit Go.Deep Go.Proofs.YtnfidmjplhmblaaGreatDoor.Harn
variable {H : Type} {enc : TypeId × Value → H}

set_option maxRecDepth 100000 in
theorem open_came {W : World} {b0 : Nat} {v : Value} {d : DataW H} {ps : List MemPlace} (hv : Value.okWide Tryz.prog W .any b0 25 v) (h : DataW.Trod enc Tryz.prog W 0 (fun _ => true) true 25 v d ps) :
    ∃ vs vp ls lp, v = .agg #[vs, vp] ∧ Came W vs vp ls lp := by
  obtain ⟨vs, vp, ls, lp, e, a1, a2, a3, a4, a5, a6⟩ := open_disk hv h
  exact ⟨vs, vp, ls, lp, e, a1, a2, a3, a4, a5, a6⟩

end Go.Proofs.YtnfidmjplhmblaaGreatDoor.Disk
