/- What the laws' own functions on lists of pending writes answer. -/
import Derived.Test.YtfpgobkedfhakaaHarnStr
namespace Go.Proofs.Ytfpgobkedfhakaa.Harn
open Go.RowKit Go.Proofs.Ytfpgobkedfhakaa.Mem Go.Proofs.Ytfpgobkedfhakaa.Mark

/-- The slice v reads as the pending writes l. -/
def Pends (W : World) (v : Value) (l : List (Int × ByteArray)) : Prop :=
  ∃ a cap, v = .slice a l.length cap ∧ ∀ j (h : j < l.length), ∃ b o, a = some ⟨b, o, none⟩ ∧ W.cell? ⟨b, o + j * 2, none⟩ = some (.int .i64 l[j].1) ∧ W.cell? ⟨b, o + j * 2 + 1, none⟩ = some (.string l[j].2)

theorem Pends.below {W W' : World} {v : Value} {l : List (Int × ByteArray)} (h : Pends W v l) (hb : Below W.heap.size W W') : Pends W' v l := by
  obtain ⟨a, cap, hv, hc⟩ := h
  refine ⟨a, cap, hv, fun j hj => ?_⟩
  obtain ⟨b, o, ha, h1, h2⟩ := hc j hj
  refine ⟨b, o, ha, ?_, ?_⟩
  · rw [hb.cell (World.block_lt_of_cell? W _ h1)]; exact h1
  · rw [hb.cell (World.block_lt_of_cell? W _ h2)]; exact h2

/-- The pending writes l lie in block g from place o on, and may be written. -/
def PendsAt (W : World) (g o : Nat) (l : List (Int × ByteArray)) : Prop := ∀ j (h : j < l.length), W.cell? ⟨g, o + j * 2, none⟩ = some (.int .i64 l[j].1) ∧ W.cell? ⟨g, o + j * 2 + 1, none⟩ = some (.string l[j].2) ∧ W.frozen? ⟨g, o + j * 2, none⟩ = false ∧ W.frozen? ⟨g, o + j * 2 + 1, none⟩ = false

theorem PendsAt.pends {W : World} {g o : Nat} {l : List (Int × ByteArray)} (h : PendsAt W g o l) (c : Nat) : Pends W (.slice (some ⟨g, o, none⟩) l.length c) l :=
  ⟨_, c, rfl, fun j hj => ⟨g, o, rfl, (h j hj).1, (h j hj).2.1⟩⟩
theorem PendsAt.below {W W' : World} {g o : Nat} {l : List (Int × ByteArray)} (h : PendsAt W g o l) (hb : Below W.heap.size W W') : PendsAt W' g o l := fun j hj => by
  obtain ⟨h1, h2, h3, h4⟩ := h j hj
  have l1 := World.block_lt_of_cell? W _ h1
  have l2 := World.block_lt_of_cell? W _ h2
  exact ⟨(hb.cell l1).trans h1, (hb.cell l2).trans h2, (hb.frozen l1).trans h3, (hb.frozen l2).trans h4⟩
theorem PendsAt.set {W : World} {g o i : Nat} {l : List (Int × ByteArray)} (h : PendsAt W g o l) (hi : i < l.length) (x : Int) (t : ByteArray) : PendsAt ((W.setCell ⟨g, o + i * 2, none⟩ (.int .i64 x)).setCell ⟨g, o + i * 2 + 1, none⟩ (.string t)) g o (l.set i (x, t)) := fun j hj => by
  have hj2 : j < l.length := by simpa using hj
  obtain ⟨h1, h2, h3, h4⟩ := h j hj2
  obtain ⟨k1, k2, _, _⟩ := h i hi
  refine ⟨?_, ?_, by simpa using h3, by simpa using h4⟩
  · rw [World.cell?_setCell_other _ _ _ _ (by intro e; injection e with _ e2 _; omega)]
    by_cases e : i = j
    · subst e
      rw [List.getElem_set_self]
      exact World.cell?_setCell_same _ _ _ k1
    · rw [List.getElem_set_ne e, World.cell?_setCell_other _ _ _ _ (by intro e; injection e with _ e2 _; omega)]
      exact h1
  · by_cases e : i = j
    · subst e
      rw [List.getElem_set_self]
      refine World.cell?_setCell_same _ _ _ (u := .string l[i].2) ?_
      rw [World.cell?_setCell_other _ _ _ _ (by intro e; injection e with _ e2 _; omega)]
      exact k2
    · rw [List.getElem_set_ne e, World.cell?_setCell_other _ _ _ _ (by intro e; injection e with _ e2 _; omega), World.cell?_setCell_other _ _ _ _ (by intro e; injection e with _ e2 _; omega)]
      exact h2

/-- A list of pending writes of which the first k are laid. -/
def pcopy (l : List (Int × ByteArray)) (k : Nat) : List (Int × ByteArray) := l.take k ++ List.replicate (l.length - k) (0, ByteArray.empty)
theorem length_pcopy (l : List (Int × ByteArray)) (k : Nat) (h : k ≤ l.length) : (pcopy l k).length = l.length := by simp [pcopy]; omega
theorem pcopy_start (l : List (Int × ByteArray)) : pcopy l 0 = List.replicate l.length (0, ByteArray.empty) := by simp [pcopy]
theorem pcopy_end (l : List (Int × ByteArray)) : pcopy l l.length = l := by simp [pcopy]
theorem pcopy_set (l : List (Int × ByteArray)) (k : Nat) (hk : k < l.length) : (pcopy l k).set k l[k] = pcopy l (k + 1) := by
  have hl : (l.take k).length = k := by simp; omega
  unfold pcopy
  rw [List.set_append_right _ _ (by omega), hl, Nat.sub_self, show l.length - k = (l.length - (k + 1)) + 1 by omega, List.replicate_succ, List.set_cons_zero, List.take_succ_eq_append_getElem hk]
  simp only [List.append_assoc, List.singleton_append]

end Go.Proofs.Ytfpgobkedfhakaa.Harn
