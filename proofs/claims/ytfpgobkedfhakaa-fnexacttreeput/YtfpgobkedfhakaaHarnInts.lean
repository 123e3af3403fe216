/- What the laws' own functions on lists of numbers (int64) answer: copied, compared, marked. -/
import Derived.Test.YtfpgobkedfhakaaHarnDisk2
namespace Go.Proofs.Ytfpgobkedfhakaa.Harn
open Go.RowKit Go.Proofs.Ytfpgobkedfhakaa.Mem Go.Proofs.Ytfpgobkedfhakaa.Mark

/-- The slice v reads as the numbers l. -/
def Ints (W : World) (v : Value) (l : List Int) : Prop :=
  ∃ a cap, v = .slice a l.length cap ∧ ∀ j (h : j < l.length), ∃ b o, a = some ⟨b, o, none⟩ ∧ W.cell? ⟨b, o + j, none⟩ = some (.int .i64 l[j])

theorem Ints.below {W W' : World} {v : Value} {l : List Int} (h : Ints W v l) (hb : Below W.heap.size W W') : Ints W' v l := by
  obtain ⟨a, cap, hv, hc⟩ := h
  refine ⟨a, cap, hv, fun j hj => ?_⟩
  obtain ⟨b, o, ha, hcell⟩ := hc j hj
  refine ⟨b, o, ha, ?_⟩
  rw [hb.cell (World.block_lt_of_cell? W _ hcell)]
  exact hcell

/-- The numbers l lie in block g from place o on, and may be written. -/
def IntsAt (W : World) (g o : Nat) (l : List Int) : Prop := ∀ j (h : j < l.length), W.cell? ⟨g, o + j, none⟩ = some (.int .i64 l[j]) ∧ W.frozen? ⟨g, o + j, none⟩ = false

theorem IntsAt.ints {W : World} {g o : Nat} {l : List Int} (h : IntsAt W g o l) (c : Nat) : Ints W (.slice (some ⟨g, o, none⟩) l.length c) l :=
  ⟨_, c, rfl, fun j hj => ⟨g, o, rfl, (h j hj).1⟩⟩
theorem IntsAt.below {W W' : World} {g o : Nat} {l : List Int} (h : IntsAt W g o l) (hb : Below W.heap.size W W') : IntsAt W' g o l := fun j hj => by
  have hl := World.block_lt_of_cell? W _ (h j hj).1
  rw [hb.cell hl, hb.frozen hl]
  exact h j hj
theorem IntsAt.grown {W W' : World} {b g o : Nat} {l : List Int} (h : IntsAt W g o l) (hg : W.grownBy W' (some b)) (hn : g ≠ b) : IntsAt W' g o l := fun j hj => by
  obtain ⟨h1, h2⟩ := h j hj
  have hlt := World.block_lt_of_cell? W _ h1
  have hne : some g ≠ some b := fun e => hn (Option.some.inj e)
  exact ⟨(far_cell hg _ hlt hne).trans h1, (far_frozen hg _ hlt hne).trans h2⟩
theorem IntsAt.set {W : World} {g o i : Nat} {l : List Int} (h : IntsAt W g o l) (hi : i < l.length) (t : Int) : IntsAt (W.setCell ⟨g, o + i, none⟩ (.int .i64 t)) g o (l.set i t) := fun j hj => by
  have hj2 : j < l.length := by simpa using hj
  refine ⟨?_, ?_⟩
  · by_cases e : i = j
    · subst e
      rw [List.getElem_set_self]
      exact World.cell?_setCell_same _ _ _ (h i hi).1
    · rw [List.getElem_set_ne e]
      rw [World.cell?_setCell_other W _ _ _ (by intro h2; injection h2 with _ h3 _; omega)]
      exact (h j hj2).1
  · have := (h j hj2).2
    simpa using this
theorem row_ints {W : World} {g : Nat} {l : List Int} {T : TypeId} (h : HasRow W g (l.map (Value.int .i64)) T) : IntsAt W g 0 l := fun j hj => by
  refine ⟨?_, by rw [Mem.frozen_of_row h]⟩
  rw [Mem.cell_of_row h]
  simp [hj]

theorem infoI64 : (Try.prog.info? 2).map (fun i => (i.zero, i.size, i.bytes)) = some (some (.int .i64 0), 1, 8) := by kernel_rfl
/-- A list of numbers of which the first k are laid. -/
def icopy (l : List Int) (k : Nat) : List Value := (l.take k).map (Value.int .i64) ++ List.replicate (l.length - k) (.int .i64 0)
theorem icopy_start (l : List Int) : icopy l 0 = List.replicate l.length (.int .i64 0) := by simp [icopy]
theorem icopy_end (l : List Int) : icopy l l.length = l.map (Value.int .i64) := by simp [icopy]
theorem icopy_cell (l : List Int) (k : Nat) (hk : k < l.length) : (icopy l k)[k]? = some (.int .i64 0) := by
  have hl : ((l.take k).map (Value.int .i64)).length = k := by simp; omega
  unfold icopy
  rw [List.getElem?_append_right (by omega), hl, Nat.sub_self, List.getElem?_replicate, if_pos (by omega)]
theorem icopy_set (l : List Int) (k : Nat) (hk : k < l.length) : (icopy l k).set k (.int .i64 l[k]) = icopy l (k + 1) := by
  have hl : ((l.take k).map (Value.int .i64)).length = k := by simp; omega
  unfold icopy
  rw [List.set_append_right _ _ (by omega), hl, Nat.sub_self, show l.length - k = (l.length - (k + 1)) + 1 by omega, List.replicate_succ, List.set_cons_zero, List.take_succ_eq_append_getElem hk]
  simp only [List.map_append, List.map_cons, List.map_nil, List.append_assoc, List.singleton_append]

/-- The marks of a list of n numbers, from k on. -/
def marksI (k n : Nat) : List Int := (List.range n).map fun (i : Nat) => ((k + i : Nat) : Int)
theorem length_marksI (k n : Nat) : (marksI k n).length = n := by simp [marksI]
def markITo (l : List Int) (k i : Nat) : List Int := marksI k i ++ l.drop i
theorem length_markITo (l : List Int) (k i : Nat) (h : i ≤ l.length) : (markITo l k i).length = l.length := by simp [markITo, length_marksI]; omega
theorem markITo_start (l : List Int) (k : Nat) : markITo l k 0 = l := by simp [markITo, marksI]
theorem markITo_end (l : List Int) (k : Nat) : markITo l k l.length = marksI k l.length := by simp [markITo]
theorem markITo_set (l : List Int) (k i : Nat) (h : i < l.length) : (markITo l k i).set i ((k + i : Nat) : Int) = markITo l k (i + 1) := by
  have hl := length_marksI k i
  unfold markITo
  rw [List.set_append_right _ _ (by omega), hl, Nat.sub_self, List.drop_eq_getElem_cons h, List.set_cons_zero]
  simp [marksI, List.range_succ]

end Go.Proofs.Ytfpgobkedfhakaa.Harn
