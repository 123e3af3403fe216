/- Op, each with a list of Step, and lists of them, that came in, opened. -/
import Derived.Test.YtfpgobkedfhakaaHarnOp
import Derived.Test.YtfpgobkedfhakaaOpenStep
namespace Go.Proofs.Ytfpgobkedfhakaa.Ops
open Go.ChangeShapes Go.WideShapes Go.ChangeAt Go.RowKit Go.Deep Go.Proofs.Ytfpgobkedfhakaa.Harn
variable {H : Type} {enc : TypeId × Value → H}

def okIn (x : Ox) : Prop := (-9223372036854775808 ≤ x.k ∧ x.k ≤ 9223372036854775807) ∧ x.p.size ≤ maxLen ∧ (-9223372036854775808 ≤ x.m ∧ x.m ≤ 9223372036854775807) ∧ x.d.size ≤ maxLen ∧ x.s.length ≤ maxLen ∧ ∀ y ∈ x.s, Del.okIn y
set_option maxRecDepth 100000 in
theorem open_cells {W : World} {sp : Nat → Bool} {fuel : Nat} {cs : List Value} {x : DataW H × List MemPlace} (hl : cs.length = 5) (h : DataW.trod enc Try.prog W 0 sp true fuel 80 cs = some x) :
    ∃ (f : Ox) (vs : Value), cs = f.row vs ∧ Del.Ls W vs f.s ∧ okIn f := by
  have k1 : Try.prog.cellsOf 2 = 1 := by kernel_rfl
  have k3 : Try.prog.cellsOf 9 = 1 := by kernel_rfl
  have k5 : Try.prog.cellsOf 55 = 1 := by kernel_rfl
  obtain ⟨c0, c1, c2, c3, c4, rfl⟩ := listN hl
  obtain ⟨xs, n, _, _, _, hlen, hf⟩ := DataW.trod_struct Try.underlying80 h
  obtain ⟨y0, y1, y2, y3, y4, rfl⟩ := listN (hlen.trans rfl)
  have h0 : DataW.trod enc Try.prog W 0 sp true n 2 (([c0, c1, c2, c3, c4].drop 0).take (Try.prog.cellsOf 2)) = some y0 := hf 0 _ rfl
  have h1 : DataW.trod enc Try.prog W 0 sp true n 9 (([c0, c1, c2, c3, c4].drop 1).take (Try.prog.cellsOf 9)) = some y1 := hf 1 _ rfl
  have h2 : DataW.trod enc Try.prog W 0 sp true n 2 (([c0, c1, c2, c3, c4].drop 2).take (Try.prog.cellsOf 2)) = some y2 := hf 2 _ rfl
  have h3 : DataW.trod enc Try.prog W 0 sp true n 9 (([c0, c1, c2, c3, c4].drop 3).take (Try.prog.cellsOf 9)) = some y3 := hf 3 _ rfl
  have h4 : DataW.trod enc Try.prog W 0 sp true n 55 (([c0, c1, c2, c3, c4].drop 4).take (Try.prog.cellsOf 55)) = some y4 := hf 4 _ rfl
  rw [k1] at h0
  rw [k3] at h1
  rw [k1] at h2
  rw [k3] at h3
  rw [k5] at h4
  obtain ⟨v0, e0, _, b0⟩ := DataW.trod_int Try.underlying2 h0
  obtain ⟨v1, e1, _, b1⟩ := DataW.trod_string Try.underlying9 h1
  obtain ⟨v2, e2, _, b2⟩ := DataW.trod_int Try.underlying2 h2
  obtain ⟨v3, e3, _, b3⟩ := DataW.trod_string Try.underlying9 h3
  obtain ⟨l, q1, q2, q3⟩ := Del.open_list_at h4
  simp at e0 e1 e2 e3
  subst e0 e1 e2 e3
  exact ⟨⟨v0, v1, v2, v3, l⟩, c4, rfl, q1, ⟨(bounds_i64 b0).1, (bounds_i64 b0).2⟩, b1, ⟨(bounds_i64 b2).1, (bounds_i64 b2).2⟩, b3, q2, q3⟩
set_option maxRecDepth 100000 in
theorem open_list_at {W : World} {sp : Nat → Bool} {fuel : Nat} {v : Value} {x : DataW H × List MemPlace}
    (h : DataW.trod enc Try.prog W 0 sp true fuel 43 [v] = some x) : ∃ l, Ls W v l ∧ l.length ≤ maxLen ∧ ∀ y ∈ l, okIn y := by
  have ce : Try.prog.cellsOf 80 = 5 := by kernel_rfl
  rcases open_slice Try.underlying43 h with ⟨hcs, _⟩ | ⟨a, len, cap, m, n, D, Pl, hcs, hb, hl, hm, hmm, _, hx⟩
  · simp at hcs
    exact ⟨[], ⟨none, 0, hcs, fun j hj => by simp at hj⟩, by simp, by simp⟩
  · simp at hcs
    have hlm : len ≤ m := by rw [hmm]; split <;> omega
    have each : ∀ i, i < len → ∃ f : Ox, (∃ vs, (∀ q (_ : q < 5), ∃ u, (f.row vs)[q]? = some u ∧ W.cell? (a.add (i * 5 + q)) = some u) ∧ Del.Ls W vs f.s) ∧ okIn f := by
      intro i hi
      obtain ⟨cs', h1, h2⟩ := hx i (by omega)
      rw [ce] at h1
      obtain ⟨_, hlen, hcell⟩ := World.cells?_some h1
      obtain ⟨f, vs, rfl, hq, hf⟩ := open_cells hlen h2
      refine ⟨f, ⟨vs, fun q hq => ?_, hq⟩, hf⟩
      have := hcell q hq
      rw [add_add] at this
      have e := List.getElem?_eq_getElem (l := f.row vs) (i := q) (by rw [hlen]; exact hq)
      exact ⟨_, e, this.trans e⟩
    have : Inhabited Ox := ⟨⟨0, ByteArray.empty, 0, ByteArray.empty, []⟩⟩
    obtain ⟨g, hg⟩ := choose_lt each
    refine ⟨(List.range len).map g, ⟨some a, cap, by simpa using hcs, fun j hj => ?_⟩, by simp; omega, fun y hy => ?_⟩
    · have hj2 : j < len := by simpa using hj
      obtain ⟨⟨_, hz, _⟩, _⟩ := hg 0 (by omega)
      obtain ⟨u0, _, hu0⟩ := hz 0 (by omega)
      obtain ⟨a1, a2⟩ := at_none hu0
      obtain ⟨⟨vs, hq, hls⟩, _⟩ := hg j hj2
      refine ⟨a.block, a.off, vs, by rw [← a1], ?_, ?_, ?_, ?_, ?_, by simpa using hls⟩
      · obtain ⟨u, h1, h2⟩ := hq 0 (by omega)
        simp [Ox.row] at h1
        subst h1
        rw [← a2]; simpa using h2
      · obtain ⟨u, h1, h2⟩ := hq 1 (by omega)
        simp [Ox.row] at h1
        subst h1
        rw [Nat.add_assoc]; rw [← a2]; simpa using h2
      · obtain ⟨u, h1, h2⟩ := hq 2 (by omega)
        simp [Ox.row] at h1
        subst h1
        rw [Nat.add_assoc]; rw [← a2]; simpa using h2
      · obtain ⟨u, h1, h2⟩ := hq 3 (by omega)
        simp [Ox.row] at h1
        subst h1
        rw [Nat.add_assoc]; rw [← a2]; simpa using h2
      · obtain ⟨u, h1, h2⟩ := hq 4 (by omega)
        simp [Ox.row] at h1
        subst h1
        rw [Nat.add_assoc]; rw [← a2]; simpa using h2
    · simp only [List.mem_map, List.mem_range] at hy
      obtain ⟨i, hi, rfl⟩ := hy
      exact (hg i hi).2
set_option maxRecDepth 100000 in
theorem open_list {W : World} {b0 : Nat} {v : Value} {d : DataW H} {ps : List MemPlace} (hv : Value.okWide Try.prog W .any b0 43 v) (h : DataW.Trod enc Try.prog W 0 (fun _ => true) true 43 v d ps) :
    ∃ l, Ls W v l ∧ l.length ≤ maxLen ∧ ∀ y ∈ l, okIn y := by
  obtain ⟨a, len, cap, rfl⟩ := okWide_slice Try.underlying43 hv
  obtain ⟨fuel, hf⟩ := h
  exact open_list_at hf
theorem okSz_of {l : List Ox} (h : ∀ y ∈ l, okIn y) : ∀ y ∈ l, okSz y := fun y hy => by
  have := h y hy
  unfold okIn at this
  exact ⟨this.2.1, this.2.2.2.1, this.2.2.2.2.1, fun q hq => by have h2 := this.2.2.2.2.2 q hq; unfold Del.okIn at h2; unfold Del.okSz; simp_all⟩
end Go.Proofs.Ytfpgobkedfhakaa.Ops
