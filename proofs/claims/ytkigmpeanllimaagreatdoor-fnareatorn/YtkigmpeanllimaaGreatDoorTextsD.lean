/- Laws that the proof rests on, put together: The law on DiskRight. A list of numbers that came in, opened; a disk that came in, opened. -/
import Derived.Test.YtkigmpeanllimaaGreatDoorImplRight
/- The law on DiskRight. -/
namespace Go.Proofs.YtkigmpeanllimaaGreatDoor.Disk
open Go.RowKit Go.Proofs.YtkigmpeanllimaaGreatDoor.Mem Go.Proofs.YtkigmpeanllimaaGreatDoor.Harn

theorem size_le_wt {l : List ByteArray} {t : ByteArray} (h : t ∈ l) : t.size ≤ wt l := by
  induction l with
  | nil => cases h
  | cons a l ih =>
    rcases List.mem_cons.1 h with rfl | h
    · unfold wt; omega
    · have := ih h; unfold wt; omega
theorem size_le_wtP {l : List (Int × ByteArray)} {y : Int × ByteArray} (h : y ∈ l) : y.2.size ≤ wtP l := by
  unfold wtP
  exact size_le_wt (List.mem_map_of_mem h)

/-- What is known of a disk that came in. -/
structure Came (w : World) (vs vp : Value) (ls : List ByteArray) (lp : List (Int × ByteArray)) : Prop where
  s : Strs w vs ls
  n : ls.length ≤ maxLen
  t : ∀ t ∈ ls, t.size ≤ maxLen
  p : Pends w vp lp
  m : lp.length ≤ maxLen
  y : ∀ y ∈ lp, y.2.size ≤ maxLen ∧ -9223372036854775808 ≤ y.1 ∧ y.1 ≤ 9223372036854775807

theorem Came.below {W W' : World} {vs vp : Value} {ls : List ByteArray} {lp : List (Int × ByteArray)} (h : Came W vs vp ls lp) (hb : Below W.heap.size W W') : Came W' vs vp ls lp :=
  ⟨Strs.below h.s hb, h.n, h.t, Pends.below h.p hb, h.m, h.y⟩
/-- A disk that is not too great for the laws. -/
structure Fits (ls : List ByteArray) (lp : List (Int × ByteArray)) : Prop where
  n : ls.length ≤ 1100000
  m : lp.length ≤ 1100000
  t : ∀ t ∈ ls, t.size ≤ maxLen
  y : ∀ y ∈ lp, y.2.size ≤ maxLen ∧ -9223372036854775808 ≤ y.1 ∧ y.1 ≤ 9223372036854775807
  t2 : ∀ t ∈ ls, t.size ≤ 2000000
  y2 : ∀ y ∈ lp, y.2.size ≤ 2000000
theorem Came.fits {w : World} {vs vp : Value} {ls : List ByteArray} {lp : List (Int × ByteArray)} (h : Came w vs vp ls lp) (hw : wtD ls lp ≤ 1048576) : Fits ls lp := by
  unfold wtD at hw
  refine ⟨by omega, by omega, h.t, h.y, fun t ht => ?_, fun y hy => ?_⟩
  · have := size_le_wt ht; omega
  · have := size_le_wtP hy; omega

end Go.Proofs.YtkigmpeanllimaaGreatDoor.Disk

/- A list of numbers that came in, opened; a disk that came in, opened. -/
namespace Go.Proofs.YtkigmpeanllimaaGreatDoor.Disk
open Go.ChangeShapes Go.WideShapes Go.ChangeAt Go.RowKit Go.Deep Go.Proofs.YtkigmpeanllimaaGreatDoor.Harn
variable {H : Type} {enc : TypeId × Value → H}

set_option maxRecDepth 100000 in
theorem open_i64s {W : World} {b0 : Nat} {v : Value} {d : DataW H} {ps : List MemPlace} (hv : Value.okWide Tryz.prog W .any b0 37 v) (h : DataW.Trod enc Tryz.prog W 0 (fun _ => true) true 37 v d ps) :
    ∃ l, Ints W v l ∧ l.length ≤ maxLen ∧ ∀ x ∈ l, (Lit.int .i64 x).wf = true := by
  obtain ⟨a, len, cap, rfl⟩ := okWide_slice Tryz.underlying37 hv
  obtain ⟨fuel, hf⟩ := h
  rcases open_ints Tryz.underlying37 Tryz.underlying2 (by kernel_rfl) hf with ⟨hcs, _⟩ | ⟨x, l, c, zs, hcs, _, hl, hm, hz, _, hcell, hwz⟩
  · simp [Value.cells] at hcs
    obtain ⟨rfl, rfl, rfl⟩ := hcs
    exact ⟨[], ⟨none, 0, rfl, fun j hj => by simp at hj⟩, by simp, by simp⟩
  · simp [Value.cells] at hcs
    obtain ⟨rfl, rfl, rfl⟩ := hcs
    have hz2 : zs.length = cap := by simpa using hz
    have hlt : (zs.take len).length = len := by simp; omega
    refine ⟨zs.take len, ⟨some x, cap, by rw [hlt], fun j hj => ?_⟩, by omega, fun y hy => hwz y (List.mem_of_mem_take hy)⟩
    have hj2 : j < len := by omega
    have hcj := hcell j (by omega)
    obtain ⟨e1, e2⟩ := at_none (hcell 0 (by omega))
    refine ⟨x.block, x.off, by rw [← e1], ?_⟩
    rw [← e2 j, hcj]
    simp [List.getD, List.getElem?_eq_getElem (show j < zs.length by omega)]
end Go.Proofs.YtkigmpeanllimaaGreatDoor.Disk
