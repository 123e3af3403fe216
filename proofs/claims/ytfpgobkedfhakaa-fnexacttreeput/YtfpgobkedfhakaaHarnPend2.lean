/- Lists of pending writes, sized, marked and held by the laws' own functions. -/
import Derived.Test.YtfpgobkedfhakaaHarnPend
namespace Go.Proofs.Ytfpgobkedfhakaa.Harn
open Go.RowKit Go.Proofs.Ytfpgobkedfhakaa.Mem Go.Proofs.Ytfpgobkedfhakaa.Mark

theorem PendsAt.set1 {W : World} {g o i : Nat} {l : List (Int × ByteArray)} (h : PendsAt W g o l) (hi : i < l.length) (x : Int) : PendsAt (W.setCell ⟨g, o + i * 2, none⟩ (.int .i64 x)) g o (l.set i (x, l[i].2)) := fun j hj => by
  have hj2 : j < l.length := by simpa using hj
  obtain ⟨h1, h2, h3, h4⟩ := h j hj2
  obtain ⟨k1, k2, _, _⟩ := h i hi
  refine ⟨?_, ?_, by simpa using h3, by simpa using h4⟩
  · by_cases e : i = j
    · subst e
      rw [List.getElem_set_self]
      exact World.cell?_setCell_same _ _ _ k1
    · rw [List.getElem_set_ne e, World.cell?_setCell_other _ _ _ _ (by intro e; injection e with _ e2 _; omega)]
      exact h1
  · rw [World.cell?_setCell_other _ _ _ _ (by intro e; injection e with _ e2 _; omega)]
    by_cases e : i = j
    · subst e
      rw [List.getElem_set_self]
      exact h2
    · rw [List.getElem_set_ne e]
      exact h2
theorem PendsAt.set2 {W : World} {g o i : Nat} {l : List (Int × ByteArray)} (h : PendsAt W g o l) (hi : i < l.length) (t : ByteArray) : PendsAt (W.setCell ⟨g, o + i * 2 + 1, none⟩ (.string t)) g o (l.set i (l[i].1, t)) := fun j hj => by
  have hj2 : j < l.length := by simpa using hj
  obtain ⟨h1, h2, h3, h4⟩ := h j hj2
  obtain ⟨k1, k2, _, _⟩ := h i hi
  refine ⟨?_, ?_, by simpa using h3, by simpa using h4⟩
  · rw [World.cell?_setCell_other _ _ _ _ (by intro e; injection e with _ e2 _; omega)]
    by_cases e : i = j
    · subst e
      rw [List.getElem_set_self]
      exact h1
    · rw [List.getElem_set_ne e]
      exact h1
  · by_cases e : i = j
    · subst e
      rw [List.getElem_set_self]
      exact World.cell?_setCell_same _ _ _ k2
    · rw [List.getElem_set_ne e, World.cell?_setCell_other _ _ _ _ (by intro e; injection e with _ e2 _; omega)]
      exact h2

def marksP (k n : Nat) : List (Int × ByteArray) := (List.range n).map fun i => (((k + 2 * i : Nat) : Int), markB (k + 2 * i + 1))
theorem length_marksP (k n : Nat) : (marksP k n).length = n := by simp [marksP]
def markPTo (l : List (Int × ByteArray)) (k i : Nat) : List (Int × ByteArray) := marksP k i ++ l.drop i
theorem length_markPTo (l : List (Int × ByteArray)) (k i : Nat) (h : i ≤ l.length) : (markPTo l k i).length = l.length := by simp [markPTo, length_marksP]; omega
theorem markPTo_start (l : List (Int × ByteArray)) (k : Nat) : markPTo l k 0 = l := by simp [markPTo, marksP]
theorem markPTo_end (l : List (Int × ByteArray)) (k : Nat) : markPTo l k l.length = marksP k l.length := by simp [markPTo]
theorem markPTo_set (l : List (Int × ByteArray)) (k i : Nat) (h : i < l.length) : (markPTo l k i).set i (((k + 2 * i : Nat) : Int), markB (k + 2 * i + 1)) = markPTo l k (i + 1) := by
  have hl := length_marksP k i
  unfold markPTo
  rw [List.set_append_right _ _ (by omega), hl, Nat.sub_self, List.drop_eq_getElem_cons h, List.set_cons_zero]
  simp [marksP, List.range_succ]

end Go.Proofs.Ytfpgobkedfhakaa.Harn
