/- What the laws' own functions on lists of files answer. -/
import Derived.Test.YtfpgobkedfhakaaHarnStr
import Derived.Test.YtfpgobkedfhakaaTreePure
import Derived.Test.YtfpgobkedfhakaaRowLaws
namespace Go.Proofs.Ytfpgobkedfhakaa.Tre
open Go.RowKit Go.Proofs.Ytfpgobkedfhakaa.Mem Go.Proofs.Ytfpgobkedfhakaa.Mark Go.Proofs.Ytfpgobkedfhakaa.Harn

def Fl.val (f : Fl) : Value := .agg #[.string f.p, .int .i64 f.m, .string f.d]
def Fl.zero : Fl := ⟨ByteArray.empty, 0, ByteArray.empty⟩
/-- The files l lie in block g from place o on. -/
def FilesIn (W : World) (g o : Nat) (l : List Fl) : Prop := ∀ j (h : j < l.length), W.cell? ⟨g, o + j * 3, none⟩ = some (.string l[j].p) ∧ W.cell? ⟨g, o + j * 3 + 1, none⟩ = some (.int .i64 l[j].m) ∧ W.cell? ⟨g, o + j * 3 + 2, none⟩ = some (.string l[j].d)
/-- The slice v reads as the files l. -/
def Files (W : World) (v : Value) (l : List Fl) : Prop :=
  ∃ a cap, v = .slice a l.length cap ∧ ∀ j (h : j < l.length), ∃ b o, a = some ⟨b, o, none⟩ ∧ W.cell? ⟨b, o + j * 3, none⟩ = some (.string l[j].p) ∧ W.cell? ⟨b, o + j * 3 + 1, none⟩ = some (.int .i64 l[j].m) ∧ W.cell? ⟨b, o + j * 3 + 2, none⟩ = some (.string l[j].d)
theorem Files.below {W W' : World} {v : Value} {l : List Fl} (h : Files W v l) (hb : Below W.heap.size W W') : Files W' v l := by
  obtain ⟨a, cap, hv, hc⟩ := h
  refine ⟨a, cap, hv, fun j hj => ?_⟩
  obtain ⟨b, o, ha, h1, h2, h3⟩ := hc j hj
  refine ⟨b, o, ha, ?_, ?_, ?_⟩
  · rw [hb.cell (World.block_lt_of_cell? W _ h1)]; exact h1
  · rw [hb.cell (World.block_lt_of_cell? W _ h2)]; exact h2
  · rw [hb.cell (World.block_lt_of_cell? W _ h3)]; exact h3
/-- The files l lie in block g from place o on, and may be written. -/
def FilesAt (W : World) (g o : Nat) (l : List Fl) : Prop := ∀ j (h : j < l.length), (W.cell? ⟨g, o + j * 3, none⟩ = some (.string l[j].p) ∧ W.cell? ⟨g, o + j * 3 + 1, none⟩ = some (.int .i64 l[j].m) ∧ W.cell? ⟨g, o + j * 3 + 2, none⟩ = some (.string l[j].d)) ∧ W.frozen? ⟨g, o + j * 3, none⟩ = false ∧ W.frozen? ⟨g, o + j * 3 + 1, none⟩ = false ∧ W.frozen? ⟨g, o + j * 3 + 2, none⟩ = false
theorem FilesAt.files {W : World} {g o : Nat} {l : List Fl} (h : FilesAt W g o l) (c : Nat) : Files W (.slice (some ⟨g, o, none⟩) l.length c) l :=
  ⟨_, c, rfl, fun j hj => ⟨g, o, rfl, (h j hj).1⟩⟩
theorem FilesAt.below {W W' : World} {g o : Nat} {l : List Fl} (h : FilesAt W g o l) (hb : Below W.heap.size W W') : FilesAt W' g o l := fun j hj => by
  obtain ⟨⟨h1, h2, h3⟩, h4, h5, h6⟩ := h j hj
  have l1 := World.block_lt_of_cell? W _ h1
  have l2 := World.block_lt_of_cell? W _ h2
  have l3 := World.block_lt_of_cell? W _ h3
  exact ⟨⟨(hb.cell l1).trans h1, (hb.cell l2).trans h2, (hb.cell l3).trans h3⟩, (hb.frozen l1).trans h4, (hb.frozen l2).trans h5, (hb.frozen l3).trans h6⟩
theorem fst_ne {g a b : Nat} (h : a ≠ b) : (⟨g, a, none⟩ : Addr) ≠ ⟨g, b, none⟩ := fun e => by injection e with _ e2 _; exact h e2
theorem FilesAt.set0 {W : World} {g o i : Nat} {l : List Fl} (h : FilesAt W g o l) (hi : i < l.length) (x : ByteArray) : FilesAt (W.setCell ⟨g, o + i * 3, none⟩ (.string x)) g o (l.set i ⟨x, l[i].m, l[i].d⟩) := fun j hj => by
  have hj2 : j < l.length := by simpa using hj
  obtain ⟨⟨h1, h2, h3⟩, h4, h5, h6⟩ := h j hj2
  obtain ⟨⟨k1, k2, k3⟩, _⟩ := h i hi
  refine ⟨⟨?_, ?_, ?_⟩, by simpa using h4, by simpa using h5, by simpa using h6⟩
  · by_cases e : i = j
    · subst e; rw [List.getElem_set_self]; exact World.cell?_setCell_same _ _ _ k1
    · rw [List.getElem_set_ne e, World.cell?_setCell_other _ _ _ _ (fst_ne (by omega))]; exact h1
  · rw [World.cell?_setCell_other _ _ _ _ (fst_ne (by omega))]
    by_cases e : i = j
    · subst e; rw [List.getElem_set_self]; exact h2
    · rw [List.getElem_set_ne e]; exact h2
  · rw [World.cell?_setCell_other _ _ _ _ (fst_ne (by omega))]
    by_cases e : i = j
    · subst e; rw [List.getElem_set_self]; exact h3
    · rw [List.getElem_set_ne e]; exact h3
theorem FilesAt.set1 {W : World} {g o i : Nat} {l : List Fl} (h : FilesAt W g o l) (hi : i < l.length) (x : Int) : FilesAt (W.setCell ⟨g, o + i * 3 + 1, none⟩ (.int .i64 x)) g o (l.set i ⟨l[i].p, x, l[i].d⟩) := fun j hj => by
  have hj2 : j < l.length := by simpa using hj
  obtain ⟨⟨h1, h2, h3⟩, h4, h5, h6⟩ := h j hj2
  obtain ⟨⟨k1, k2, k3⟩, _⟩ := h i hi
  refine ⟨⟨?_, ?_, ?_⟩, by simpa using h4, by simpa using h5, by simpa using h6⟩
  · rw [World.cell?_setCell_other _ _ _ _ (fst_ne (by omega))]
    by_cases e : i = j
    · subst e; rw [List.getElem_set_self]; exact h1
    · rw [List.getElem_set_ne e]; exact h1
  · by_cases e : i = j
    · subst e; rw [List.getElem_set_self]; exact World.cell?_setCell_same _ _ _ k2
    · rw [List.getElem_set_ne e, World.cell?_setCell_other _ _ _ _ (fst_ne (by omega))]; exact h2
  · rw [World.cell?_setCell_other _ _ _ _ (fst_ne (by omega))]
    by_cases e : i = j
    · subst e; rw [List.getElem_set_self]; exact h3
    · rw [List.getElem_set_ne e]; exact h3
theorem FilesAt.set2 {W : World} {g o i : Nat} {l : List Fl} (h : FilesAt W g o l) (hi : i < l.length) (x : ByteArray) : FilesAt (W.setCell ⟨g, o + i * 3 + 2, none⟩ (.string x)) g o (l.set i ⟨l[i].p, l[i].m, x⟩) := fun j hj => by
  have hj2 : j < l.length := by simpa using hj
  obtain ⟨⟨h1, h2, h3⟩, h4, h5, h6⟩ := h j hj2
  obtain ⟨⟨k1, k2, k3⟩, _⟩ := h i hi
  refine ⟨⟨?_, ?_, ?_⟩, by simpa using h4, by simpa using h5, by simpa using h6⟩
  · rw [World.cell?_setCell_other _ _ _ _ (fst_ne (by omega))]
    by_cases e : i = j
    · subst e; rw [List.getElem_set_self]; exact h1
    · rw [List.getElem_set_ne e]; exact h1
  · rw [World.cell?_setCell_other _ _ _ _ (fst_ne (by omega))]
    by_cases e : i = j
    · subst e; rw [List.getElem_set_self]; exact h2
    · rw [List.getElem_set_ne e]; exact h2
  · by_cases e : i = j
    · subst e; rw [List.getElem_set_self]; exact World.cell?_setCell_same _ _ _ k3
    · rw [List.getElem_set_ne e, World.cell?_setCell_other _ _ _ _ (fst_ne (by omega))]; exact h3
theorem FilesAt.set {W : World} {g o i : Nat} {l : List Fl} (h : FilesAt W g o l) (hi : i < l.length) (f : Fl) : FilesAt (((W.setCell ⟨g, o + i * 3, none⟩ (.string f.p)).setCell ⟨g, o + i * 3 + 1, none⟩ (.int .i64 f.m)).setCell ⟨g, o + i * 3 + 2, none⟩ (.string f.d)) g o (l.set i f) := by
  have h1 := h.set0 hi f.p
  have h2 := h1.set1 (i := i) (by simpa using hi) f.m
  have h3 := h2.set2 (i := i) (by simpa using hi) f.d
  simpa using h3

theorem toFile1 (f : Fl) (w : World) :
    Calls Try.prog 13 #[f.val] w fun e w' => e = .returned f.val ∧ Below w.heap.size w w' := by
  unfold Fl.val
  go_enter Try.func13, Try.ntmps13
  go_wp2
  exact bodyPost_ret (v := .agg #[.string f.p, .int .i64 f.m, .string f.d]) (by simp [results, Try.results13, go_sem]) rfl ⟨rfl, by
    have hB : Below w.heap.size w ((w.alloc (.cells #[.string ByteArray.empty, .int .i64 0, .string ByteArray.empty] 26)).alloc (.cells #[.string ByteArray.empty, .int .i64 0, .string ByteArray.empty] 36)) := ((Below.refl _ _).alloc (Nat.le_refl _) _).alloc (by simp) _
    first
      | exact (((Below.refl _ _).alloc (Nat.le_refl _) _).alloc (by simp) _).alloc (by simp; omega) _
      | (repeat (first | exact Below.refl _ _ | (refine Below.alloc ?_ (by simp <;> omega) _) | (refine Below.setCell ?_ (by simp <;> omega) _)))⟩
theorem eqFile1 (f : Fl) (w : World) :
    Calls Try.prog 93 #[f.val, f.val] w fun e w' => e = .returned (.bool true) ∧ Below w.heap.size w w' := by
  unfold Fl.val
  go_enter Try.func93, Try.ntmps93
  go_wp2
  go_ret
  exact ⟨rfl, ((Below.refl _ _).alloc (Nat.le_refl _) _).alloc (by simp) _⟩
theorem szFile_in (f : Fl) (left : Nat) (w : World) (h : f.p.size + f.d.size ≤ left) (hl : left ≤ 1048576) :
    Calls Try.prog 10 #[f.val, .int .i64 (left : Int)] w fun e w' => e = .returned (.int .i64 ((left - (f.p.size + f.d.size) : Nat) : Int)) ∧ Below w.heap.size w w' := by
  have e1 : ((left - (f.p.size + f.d.size) : Nat) : Int) = (left : Int) - (f.p.size : Int) - (f.d.size : Int) := by omega
  rw [e1]
  unfold Fl.val
  go_enter Try.func10, Try.ntmps10
  go_wp2
  go_ret
  exact ⟨rfl, (Below.refl _ _).alloc (Nat.le_refl _) _⟩
theorem szFile_out (f : Fl) (left : Nat) (w : World) (h : left < f.p.size + f.d.size) (hp : f.p.size ≤ 9223372036854775807) (hd : f.d.size ≤ 9223372036854775807) (hl : left ≤ 1048576) :
    Calls Try.prog 10 #[f.val, .int .i64 (left : Int)] w fun e w' => e = .returned (.int .i64 (-1)) ∧ Below w.heap.size w w' := by
  unfold Fl.val
  by_cases h1 : left < f.p.size
  · go_enter Try.func10, Try.ntmps10
    go_wp2
    go_ret
    exact ⟨rfl, (Below.refl _ _).alloc (Nat.le_refl _) _⟩
  · go_enter Try.func10, Try.ntmps10
    go_wp2
    go_ret
    exact ⟨rfl, (Below.refl _ _).alloc (Nat.le_refl _) _⟩
end Go.Proofs.Ytfpgobkedfhakaa.Tre
