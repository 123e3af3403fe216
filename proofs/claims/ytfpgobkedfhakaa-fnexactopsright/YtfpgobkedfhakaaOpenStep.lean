/- Step, and lists of them, that came in, opened. -/
import Derived.Test.YtfpgobkedfhakaaHarnStep
import Derived.Test.YtfpgobkedfhakaaOpenDisk
import Derived.Deep.Slices
namespace Go.Proofs.Ytfpgobkedfhakaa.Del
open Go.ChangeShapes Go.WideShapes Go.ChangeAt Go.RowKit Go.Deep Go.Proofs.Ytfpgobkedfhakaa.Harn
variable {H : Type} {enc : TypeId × Value → H}

theorem listN {α : Type} {xs : List α} (h : xs.length = 3) : ∃ c0 c1 c2, xs = [c0, c1, c2] := by
  match xs, h with
  | [c0, c1, c2], _ => exact ⟨c0, c1, c2, rfl⟩
def okIn (x : Pc) : Prop := (-9223372036854775808 ≤ x.f ∧ x.f ≤ 9223372036854775807) ∧ (-9223372036854775808 ≤ x.m ∧ x.m ≤ 9223372036854775807) ∧ x.t.size ≤ maxLen
set_option maxRecDepth 100000 in
theorem open_cells {W : World} {sp : Nat → Bool} {fuel : Nat} {cs : List Value} {x : DataW H × List MemPlace} (hl : cs.length = 3) (h : DataW.trod enc Try.prog W 0 sp true fuel 93 cs = some x) :
    ∃ f : Pc, cs = f.row ∧ okIn f := by
  have k1 : Try.prog.cellsOf 2 = 1 := by kernel_rfl
  have k3 : Try.prog.cellsOf 9 = 1 := by kernel_rfl
  obtain ⟨c0, c1, c2, rfl⟩ := listN hl
  obtain ⟨xs, n, _, _, _, hlen, hf⟩ := DataW.trod_struct Try.underlying93 h
  obtain ⟨y0, y1, y2, rfl⟩ := listN (hlen.trans rfl)
  have h0 : DataW.trod enc Try.prog W 0 sp true n 2 (([c0, c1, c2].drop 0).take (Try.prog.cellsOf 2)) = some y0 := hf 0 _ rfl
  have h1 : DataW.trod enc Try.prog W 0 sp true n 2 (([c0, c1, c2].drop 1).take (Try.prog.cellsOf 2)) = some y1 := hf 1 _ rfl
  have h2 : DataW.trod enc Try.prog W 0 sp true n 9 (([c0, c1, c2].drop 2).take (Try.prog.cellsOf 9)) = some y2 := hf 2 _ rfl
  rw [k1] at h0
  rw [k1] at h1
  rw [k3] at h2
  obtain ⟨v0, e0, _, b0⟩ := DataW.trod_int Try.underlying2 h0
  obtain ⟨v1, e1, _, b1⟩ := DataW.trod_int Try.underlying2 h1
  obtain ⟨v2, e2, _, b2⟩ := DataW.trod_string Try.underlying9 h2
  simp at e0 e1 e2
  subst e0 e1 e2
  exact ⟨⟨v0, v1, v2⟩, rfl, ⟨(bounds_i64 b0).1, (bounds_i64 b0).2⟩, ⟨(bounds_i64 b1).1, (bounds_i64 b1).2⟩, b2⟩
set_option maxRecDepth 100000 in
theorem open_list_at {W : World} {sp : Nat → Bool} {fuel : Nat} {v : Value} {x : DataW H × List MemPlace}
    (h : DataW.trod enc Try.prog W 0 sp true fuel 55 [v] = some x) : ∃ l, Ls W v l ∧ l.length ≤ maxLen ∧ ∀ y ∈ l, okIn y := by
  have ce : Try.prog.cellsOf 93 = 3 := by kernel_rfl
  rcases open_slice Try.underlying55 h with ⟨hcs, _⟩ | ⟨a, len, cap, m, n, D, Pl, hcs, hb, hl, hm, hmm, _, hx⟩
  · simp at hcs
    exact ⟨[], ⟨none, 0, hcs, fun j hj => by simp at hj⟩, by simp, by simp⟩
  · simp at hcs
    have hlm : len ≤ m := by rw [hmm]; split <;> omega
    have each : ∀ i, i < len → ∃ f : Pc, (∀ q (_ : q < 3), ∃ u, f.row[q]? = some u ∧ W.cell? (a.add (i * 3 + q)) = some u) ∧ okIn f := by
      intro i hi
      obtain ⟨cs', h1, h2⟩ := hx i (by omega)
      rw [ce] at h1
      obtain ⟨_, hlen, hcell⟩ := World.cells?_some h1
      obtain ⟨f, rfl, hf⟩ := open_cells hlen h2
      refine ⟨f, fun q hq => ?_, hf⟩
      have := hcell q hq
      rw [add_add] at this
      have e := List.getElem?_eq_getElem (l := f.row) (i := q) (by rw [hlen]; exact hq)
      exact ⟨_, e, this.trans e⟩
    have : Inhabited Pc := ⟨Pc.zero⟩
    obtain ⟨g, hg⟩ := choose_lt each
    refine ⟨(List.range len).map g, ⟨some a, cap, by simpa using hcs, fun j hj => ?_⟩, by simp; omega, fun y hy => ?_⟩
    · have hj2 : j < len := by simpa using hj
      obtain ⟨u0, _, hu0⟩ := (hg 0 (by omega)).1 0 (by omega)
      obtain ⟨a1, a2⟩ := at_none hu0
      refine ⟨a.block, a.off, by rw [← a1], fun q hq => ?_⟩
      obtain ⟨u, h1, h2⟩ := (hg j hj2).1 q hq
      refine ⟨u, by simpa using h1, ?_⟩
      rw [Nat.add_assoc, ← a2]; exact h2
    · simp only [List.mem_map, List.mem_range] at hy
      obtain ⟨i, hi, rfl⟩ := hy
      exact (hg i hi).2
set_option maxRecDepth 100000 in
theorem open_list {W : World} {b0 : Nat} {v : Value} {d : DataW H} {ps : List MemPlace} (hv : Value.okWide Try.prog W .any b0 55 v) (h : DataW.Trod enc Try.prog W 0 (fun _ => true) true 55 v d ps) :
    ∃ l, Ls W v l ∧ l.length ≤ maxLen ∧ ∀ y ∈ l, okIn y := by
  obtain ⟨a, len, cap, rfl⟩ := okWide_slice Try.underlying55 hv
  obtain ⟨fuel, hf⟩ := h
  exact open_list_at hf
set_option maxRecDepth 100000 in
theorem open_one {W : World} {b0 : Nat} {v : Value} {d : DataW H} {ps : List MemPlace} (hv : Value.okWide Try.prog W .any b0 93 v) (h : DataW.Trod enc Try.prog W 0 (fun _ => true) true 93 v d ps) :
    ∃ f : Pc, v = f.val ∧ okIn f := by
  obtain ⟨cs, rfl, hsz⟩ := okWide_struct Try.underlying93 hv
  obtain ⟨fuel, hf⟩ := h
  obtain ⟨f, e, hf⟩ := open_cells (cs := cs.toList) (by simpa using hsz.trans (by kernel_rfl)) hf
  refine ⟨f, ?_, hf⟩
  unfold Pc.val
  congr 1
  exact Array.toList_inj.1 e
end Go.Proofs.Ytfpgobkedfhakaa.Del
