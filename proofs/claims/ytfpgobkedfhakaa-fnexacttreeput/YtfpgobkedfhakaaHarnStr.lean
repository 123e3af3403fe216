/- What the laws' own functions on lists of texts answer: sized, copied, compared, marked, held. -/
import Derived.Test.YtfpgobkedfhakaaMarkText
import Derived.BigRegion
import Derived.Deep.QuietTactic
import Derived.BigQuiet
import Derived.Deep.RegionWith
namespace Go.Proofs.Ytfpgobkedfhakaa.Harn
open Go.RowKit Go.Proofs.Ytfpgobkedfhakaa.Mem Go.Proofs.Ytfpgobkedfhakaa.Mark

/-- The slice v reads as the texts l. -/
def Strs (W : World) (v : Value) (l : List ByteArray) : Prop :=
  ∃ a cap, v = .slice a l.length cap ∧ ∀ j (h : j < l.length), ∃ b o, a = some ⟨b, o, none⟩ ∧ W.cell? ⟨b, o + j, none⟩ = some (.string l[j])

theorem Strs.below {W W' : World} {v : Value} {l : List ByteArray} (h : Strs W v l) (hb : Below W.heap.size W W') : Strs W' v l := by
  obtain ⟨a, cap, hv, hc⟩ := h
  refine ⟨a, cap, hv, fun j hj => ?_⟩
  obtain ⟨b, o, ha, hcell⟩ := hc j hj
  refine ⟨b, o, ha, ?_⟩
  rw [hb.cell (World.block_lt_of_cell? W _ hcell)]
  exact hcell
theorem Strs.drewN {W : World} {v : Value} {l : List ByteArray} (h : Strs W v l) (n : Nat) : Strs (W.drewN n) v l := h

theorem infoStr : (Try.prog.info? 9).map (fun i => (i.zero, i.size, i.bytes)) = some (some (.string ByteArray.empty), 1, 16) := by kernel_rfl
theorem underStrs : Try.prog.underlying 96 = some (.slice 9) := by kernel_rfl

theorem make_strs (n : Nat) (hn : n ≤ 2000000) (w : World) :
    ∃ W1, (Instr.makeSlice 96 (.int .i64 (n : Int)) (.int .i64 (n : Int))).run Try.prog w = .ok (.slice (some ⟨w.heap.size, 0, none⟩) n n) W1 ∧ HasRow W1 w.heap.size (List.replicate n (.string ByteArray.empty)) 9 ∧ Below w.heap.size w W1 ∧ W1.heap.size = w.heap.size + 1 := by
  refine ⟨_, run_make_row' (P := Try.prog) 96 9 (.string ByteArray.empty) 16 underStrs infoStr rfl .i64 .i64 n (by omega) (by omega) w, ?_, (Below.refl _ _).alloc (Nat.le_refl _) _, by simp⟩
  unfold HasRow
  rw [← toList_madeCells_one]
  show (w.heap.push _)[w.heap.size]? = _
  simp

/-- A list of texts of which the first k are laid. -/
def copyTo (l : List ByteArray) (k : Nat) : List Value := (l.take k).map Value.string ++ List.replicate (l.length - k) (.string ByteArray.empty)
theorem copyTo_start (l : List ByteArray) : copyTo l 0 = List.replicate l.length (.string ByteArray.empty) := by simp [copyTo]
theorem copyTo_end (l : List ByteArray) : copyTo l l.length = l.map Value.string := by simp [copyTo]
theorem copyTo_cell (l : List ByteArray) (k : Nat) (hk : k < l.length) : (copyTo l k)[k]? = some (.string ByteArray.empty) := by
  have hl : ((l.take k).map Value.string).length = k := by simp; omega
  unfold copyTo
  rw [List.getElem?_append_right (by omega), hl, Nat.sub_self, List.getElem?_replicate, if_pos (by omega)]
theorem copyTo_set (l : List ByteArray) (k : Nat) (hk : k < l.length) : (copyTo l k).set k (.string l[k]) = copyTo l (k + 1) := by
  have hl : ((l.take k).map Value.string).length = k := by simp; omega
  unfold copyTo
  rw [List.set_append_right _ _ (by omega), hl, Nat.sub_self, show l.length - k = (l.length - (k + 1)) + 1 by omega, List.replicate_succ, List.set_cons_zero, List.take_succ_eq_append_getElem hk]
  simp only [List.map_append, List.map_cons, List.map_nil, List.append_assoc, List.singleton_append]

/-- What a list of texts weighs. -/
def wt : List ByteArray → Nat
  | [] => 0
  | t :: l => t.size + wt l
theorem wt_append (a b : List ByteArray) : wt (a ++ b) = wt a + wt b := by
  induction a with
  | nil => simp [wt]
  | cons t a ih => simp only [List.cons_append, wt, ih]; omega
theorem wt_take (l : List ByteArray) (k : Nat) (h : k < l.length) : wt (l.take (k + 1)) = wt (l.take k) + l[k].size := by
  rw [List.take_succ_eq_append_getElem h, wt_append]
  simp [wt]
theorem wt_le (l : List ByteArray) (k : Nat) : wt (l.take k) ≤ wt l := by
  have h := wt_append (l.take k) (l.drop k)
  rw [List.take_append_drop] at h
  omega

theorem bcell {W w1 : World} (hb : Below W.heap.size W w1) : (∀ b o, b < W.heap.size → w1.cell? ⟨b, o, none⟩ = W.cell? ⟨b, o, none⟩) ∧ (∀ b o, b < W.heap.size → w1.frozen? ⟨b, o, none⟩ = W.frozen? ⟨b, o, none⟩) :=
  ⟨fun b o h => hb.cell (p := ⟨b, o, none⟩) h, fun b o h => hb.frozen (p := ⟨b, o, none⟩) h⟩

/-- The texts l lie in block g from place o on, and may be written. -/
def StrsAt (W : World) (g o : Nat) (l : List ByteArray) : Prop := ∀ j (h : j < l.length), W.cell? ⟨g, o + j, none⟩ = some (.string l[j]) ∧ W.frozen? ⟨g, o + j, none⟩ = false

theorem StrsAt.strs {W : World} {g o : Nat} {l : List ByteArray} (h : StrsAt W g o l) (c : Nat) : Strs W (.slice (some ⟨g, o, none⟩) l.length c) l :=
  ⟨_, c, rfl, fun j hj => ⟨g, o, rfl, (h j hj).1⟩⟩
theorem StrsAt.below {W W' : World} {g o : Nat} {l : List ByteArray} (h : StrsAt W g o l) (hb : Below W.heap.size W W') : StrsAt W' g o l := fun j hj => by
  have hl := World.block_lt_of_cell? W _ (h j hj).1
  rw [hb.cell hl, hb.frozen hl]
  exact h j hj
theorem StrsAt.set {W : World} {g o i : Nat} {l : List ByteArray} (h : StrsAt W g o l) (hi : i < l.length) (t : ByteArray) : StrsAt (W.setCell ⟨g, o + i, none⟩ (.string t)) g o (l.set i t) := fun j hj => by
  have hj2 : j < l.length := by simpa using hj
  refine ⟨?_, ?_⟩
  · by_cases e : i = j
    · subst e
      rw [List.getElem_set_self]
      exact World.cell?_setCell_same _ _ _ (h i hi).1
    · rw [List.getElem_set_ne e]
      rw [World.cell?_setCell_other W _ _ _ (by intro h2; injection h2 with _ h3 _; omega)]
      exact (h j hj2).1
  · have := (h j hj2).2
    simpa using this

/-- The first i of the texts are marked. -/
def markTo (l : List ByteArray) (k i : Nat) : List ByteArray := marks k i ++ l.drop i
theorem length_markTo (l : List ByteArray) (k i : Nat) (h : i ≤ l.length) : (markTo l k i).length = l.length := by simp [markTo, length_marks]; omega
theorem markTo_start (l : List ByteArray) (k : Nat) : markTo l k 0 = l := by simp [markTo, marks]
theorem markTo_end (l : List ByteArray) (k : Nat) : markTo l k l.length = marks k l.length := by simp [markTo]
theorem markTo_set (l : List ByteArray) (k i : Nat) (h : i < l.length) : (markTo l k i).set i (markB (k + i)) = markTo l k (i + 1) := by
  have hl := length_marks k i
  unfold markTo
  rw [List.set_append_right _ _ (by omega), hl, Nat.sub_self, List.drop_eq_getElem_cons h, List.set_cons_zero]
  simp [marks, List.range_succ]

end Go.Proofs.Ytfpgobkedfhakaa.Harn
