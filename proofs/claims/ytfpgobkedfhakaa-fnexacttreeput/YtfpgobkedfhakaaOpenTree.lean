/- Trees and files that came in, opened. -/
import Derived.Test.YtfpgobkedfhakaaHarnFile2
import Derived.Test.YtfpgobkedfhakaaOpenDisk
import Derived.Deep.Slices
namespace Go.Proofs.Ytfpgobkedfhakaa.Tre
open Go.ChangeShapes Go.WideShapes Go.ChangeAt Go.RowKit Go.Deep Go.Proofs.Ytfpgobkedfhakaa.Harn
variable {H : Type} {enc : TypeId × Value → H}

theorem array1 {α : Type} {cs : Array α} (h : cs.size = 1) : ∃ c0, cs = #[c0] := by
  obtain ⟨l⟩ := cs
  match l, h with
  | [c0], _ => exact ⟨c0, rfl⟩
theorem array3 {α : Type} {cs : Array α} (h : cs.size = 3) : ∃ c0 c1 c2, cs = #[c0, c1, c2] := by
  obtain ⟨l⟩ := cs
  match l, h with
  | [c0, c1, c2], _ => exact ⟨c0, c1, c2, rfl⟩
theorem list1 {α : Type} {xs : List α} (h : xs.length = 1) : ∃ c0, xs = [c0] := by
  match xs, h with
  | [c0], _ => exact ⟨c0, rfl⟩
theorem list3 {α : Type} {xs : List α} (h : xs.length = 3) : ∃ c0 c1 c2, xs = [c0, c1, c2] := by
  match xs, h with
  | [c0, c1, c2], _ => exact ⟨c0, c1, c2, rfl⟩

def okF (y : Fl) : Prop := y.p.size ≤ maxLen ∧ y.d.size ≤ maxLen ∧ -9223372036854775808 ≤ y.m ∧ y.m ≤ 9223372036854775807
set_option maxRecDepth 100000 in
/-- The three cells of a file. -/
theorem file_cells {W : World} {sp : Nat → Bool} {fuel : Nat} {cs : List Value} {x : DataW H × List MemPlace} (hl : cs.length = 3) (h : DataW.trod enc Try.prog W 0 sp true fuel 26 cs = some x) :
    ∃ f : Fl, cs = [.string f.p, .int .i64 f.m, .string f.d] ∧ okF f := by
  have k1 : Try.prog.cellsOf 2 = 1 := by kernel_rfl
  have k3 : Try.prog.cellsOf 9 = 1 := by kernel_rfl
  obtain ⟨c0, c1, c2, rfl⟩ : ∃ c0 c1 c2, cs = [c0, c1, c2] := list3 hl
  obtain ⟨xs, n, _, _, _, hlen, hf⟩ := DataW.trod_struct Try.underlying26 h
  obtain ⟨y0, y1, y2, rfl⟩ := list3 (hlen.trans rfl)
  have h0 : DataW.trod enc Try.prog W 0 sp true n 9 (([c0, c1, c2].drop 0).take (Try.prog.cellsOf 9)) = some y0 := hf 0 _ rfl
  have h1 : DataW.trod enc Try.prog W 0 sp true n 2 (([c0, c1, c2].drop 1).take (Try.prog.cellsOf 2)) = some y1 := hf 1 _ rfl
  have h2 : DataW.trod enc Try.prog W 0 sp true n 9 (([c0, c1, c2].drop 2).take (Try.prog.cellsOf 9)) = some y2 := hf 2 _ rfl
  rw [k3] at h0 h2
  rw [k1] at h1
  obtain ⟨p, e0, _, hp⟩ := DataW.trod_string Try.underlying9 h0
  obtain ⟨m, e1, _, hm⟩ := DataW.trod_int Try.underlying2 h1
  obtain ⟨d, e2, _, hd⟩ := DataW.trod_string Try.underlying9 h2
  simp at e0 e1 e2
  subst e0 e1 e2
  have hb := bounds_i64 hm
  exact ⟨⟨p, m, d⟩, rfl, hp, hd, hb.1, hb.2⟩
set_option maxRecDepth 100000 in
theorem open_files_at {W : World} {sp : Nat → Bool} {fuel : Nat} {v : Value} {x : DataW H × List MemPlace}
    (h : DataW.trod enc Try.prog W 0 sp true fuel 22 [v] = some x) : ∃ l, Files W v l ∧ l.length ≤ maxLen ∧ ∀ y ∈ l, okF y := by
  have ce : Try.prog.cellsOf 26 = 3 := by kernel_rfl
  rcases open_slice Try.underlying22 h with ⟨hcs, _⟩ | ⟨a, len, cap, m, n, D, Pl, hcs, hb, hl, hm, hmm, _, hx⟩
  · simp at hcs
    exact ⟨[], ⟨none, 0, hcs, fun j hj => by simp at hj⟩, by simp, by simp⟩
  · simp at hcs
    have hlm : len ≤ m := by rw [hmm]; split <;> omega
    have each : ∀ i, i < len → ∃ f : Fl, W.cell? (a.add (i * 3)) = some (.string f.p) ∧ W.cell? (a.add (i * 3 + 1)) = some (.int .i64 f.m) ∧ W.cell? (a.add (i * 3 + 2)) = some (.string f.d) ∧ okF f := by
      intro i hi
      obtain ⟨cs', h1, h2⟩ := hx i (by omega)
      rw [ce] at h1
      obtain ⟨_, hlen, hcell⟩ := World.cells?_some h1
      obtain ⟨f, rfl, hf⟩ := file_cells hlen h2
      have q0 := hcell 0 (by omega)
      have q1 := hcell 1 (by omega)
      have q2 := hcell 2 (by omega)
      rw [add_add] at q0 q1 q2
      exact ⟨f, by simpa using q0, by simpa using q1, by simpa using q2, hf⟩
    have : Inhabited Fl := ⟨Fl.zero⟩
    obtain ⟨q, hq⟩ := choose_lt each
    refine ⟨(List.range len).map q, ⟨some a, cap, by simpa using hcs, fun j hj => ?_⟩, by simp; omega, fun y hy => ?_⟩
    · have hj2 : j < len := by simpa using hj
      obtain ⟨h1, h2, h3, _⟩ := hq j hj2
      obtain ⟨a1, a2⟩ := at_none (by have := (hq 0 (by omega)).1; simpa using this)
      refine ⟨a.block, a.off, by rw [← a1], ?_, ?_, ?_⟩
      · rw [← a2, h1]; simp
      · rw [Nat.add_assoc, ← a2, h2]; simp
      · rw [Nat.add_assoc, ← a2, h3]; simp
    · simp only [List.mem_map, List.mem_range] at hy
      obtain ⟨i, hi, rfl⟩ := hy
      exact (hq i hi).2.2.2
set_option maxRecDepth 100000 in
theorem open_file {W : World} {b0 : Nat} {v : Value} {d : DataW H} {ps : List MemPlace} (hv : Value.okWide Try.prog W .any b0 26 v) (h : DataW.Trod enc Try.prog W 0 (fun _ => true) true 26 v d ps) :
    ∃ f : Fl, v = f.val ∧ okF f := by
  obtain ⟨cs, rfl, hsz⟩ := okWide_struct Try.underlying26 hv
  obtain ⟨fuel, hf⟩ := h
  obtain ⟨f, e, hf⟩ := file_cells (cs := cs.toList) (by simpa using hsz.trans (by kernel_rfl)) hf
  refine ⟨f, ?_, hf⟩
  unfold Fl.val
  congr 1
  exact Array.toList_inj.1 e
set_option maxRecDepth 100000 in
theorem open_tree {W : World} {b0 : Nat} {v : Value} {d : DataW H} {ps : List MemPlace} (hv : Value.okWide Try.prog W .any b0 24 v) (h : DataW.Trod enc Try.prog W 0 (fun _ => true) true 24 v d ps) :
    ∃ u l, v = .agg #[u] ∧ Files W u l ∧ l.length ≤ maxLen ∧ ∀ y ∈ l, okF y := by
  have k1 : Try.prog.cellsOf 22 = 1 := by kernel_rfl
  obtain ⟨cs, rfl, hsz⟩ := okWide_struct Try.underlying24 hv
  obtain ⟨c0, rfl⟩ := array1 (hsz.trans (by kernel_rfl))
  obtain ⟨fuel, hf⟩ := h
  obtain ⟨xs, n, _, _, _, hlen, hf⟩ := DataW.trod_struct Try.underlying24 hf
  obtain ⟨y0, rfl⟩ := list1 (hlen.trans rfl)
  have h0 : DataW.trod enc Try.prog W 0 (fun _ => true) true n 22 (([c0].drop 0).take (Try.prog.cellsOf 22)) = some y0 := hf 0 _ rfl
  rw [k1] at h0
  obtain ⟨l, h1, h2, h3⟩ := open_files_at h0
  exact ⟨c0, l, rfl, h1, h2, h3⟩
end Go.Proofs.Ytfpgobkedfhakaa.Tre
