/- Laws that the proof rests on, put together: What the laws' markText answers. What the laws' own functions on lists of texts answer: sized, copied, compared, marked, held. What the laws' own functions on lists of pending writes answer. Lists of pending writes, sized, marked and held by the laws' own functions. A disk that came in, opened: its sectors and its pending writes. What the laws' own functions on disks answer. What the program's join answers: the two texts in one, in new memory. A map of pending writes by their places, told by what stands at each place. What the CRC functions of the program and of the model answer, by contracts. What the two functions answer that lay a sum down in four bytes. What the two Seal functions answer, by contracts. When a seal is right. A seal is right; with one byte turned it is not. What the two PutNum functions answer, by contracts. -/
import Derived.Test.YtkigmpeanllimaaGreatDoorRows
import Derived.Test.YtkigmpeanllimaaGreatDoorTextsA
import Derived.BigRegion
import Derived.Deep.QuietTactic
import Derived.BigQuiet
import Derived.Deep.RegionWith
import Derived.ProofKit
import Derived.OpenShut
import Derived.SliceStrings
import Derived.Deep.SlicePairs
import Derived.Lib.SmallJoins
import Derived.Maps.OwnSet
import Derived.WalkKit
import Derived.Below
import Derived.Lib.Strings
/- What the laws' markText answers. -/
namespace Go.Proofs.YtkigmpeanllimaaGreatDoor.Mark
open Go.RowKit Go.Proofs.YtkigmpeanllimaaGreatDoor.Mem

theorem under : Tryz.prog.underlying 22 = some (.slice 5) := by kernel_rfl
theorem underS : Tryz.prog.underlying 9 = some .string := by kernel_rfl
theorem under8 : Tryz.prog.underlying 5 = some (.int .u8) := by kernel_rfl

theorem digit_text (W : World) (x : Nat) : (convert 22 9 (.slice (some ⟨W.heap.size, 0, none⟩) 1 1)).run Tryz.prog (W.alloc (.cells #[.int .u8 (48 + (x : Int) % 10)] 5)) = .ok (.string ⟨#[UInt8.ofNat (48 + x % 10)]⟩) (W.alloc (.cells #[.int .u8 (48 + (x : Int) % 10)] 5)) := by
  have h := text_of_row (P := Tryz.prog) 22 9 5 under under8 underS (W.alloc (.cells #[.int .u8 (48 + (x : Int) % 10)] 5)) W.heap.size 1 1 [UInt8.ofNat (48 + x % 10)] [] rfl (T := 5) (by
    show (W.heap.push _)[W.heap.size]? = _
    have e : (UInt8.ofNat (48 + x % 10)).toNat = 48 + x % 10 := by rw [UInt8.toNat_ofNat']; omega
    simp [Lib.byteCells]
    omega)
  exact h

theorem cons_text (c : UInt8) (acc : List UInt8) : (⟨#[c]⟩ : ByteArray) ++ (⟨acc.toArray⟩ : ByteArray) = ⟨(c :: acc).toArray⟩ := by
  apply ByteArray.ext
  simp

theorem digs_len : ∀ (n k : Nat) (acc : List UInt8), k < 10 ^ n → (digs k acc).length ≤ acc.length + n
  | 0, k, acc, h => by
    obtain rfl : k = 0 := by simpa using h
    rw [digs_zero]; omega
  | n + 1, k, acc, h => by
    by_cases hk : k = 0
    · subst hk; rw [digs_zero]; omega
    · rw [digs_pos (by omega)]
      have := digs_len n (k / 10) (UInt8.ofNat (48 + k % 10) :: acc) (by rw [Nat.pow_succ] at h; omega)
      rw [List.length_cons] at this
      omega
theorem acc_len : ∀ (n k : Nat) (acc : List UInt8), k ≤ n → acc.length ≤ (digs k acc).length
  | 0, k, acc, h => by
    obtain rfl : k = 0 := by omega
    rw [digs_zero]; omega
  | n + 1, k, acc, h => by
    by_cases hk : k = 0
    · subst hk; rw [digs_zero]; omega
    · rw [digs_pos (by omega)]
      have := acc_len n (k / 10) (UInt8.ofNat (48 + k % 10) :: acc) (by omega)
      rw [List.length_cons] at this
      omega

end Go.Proofs.YtkigmpeanllimaaGreatDoor.Mark

/- What the laws' own functions on lists of texts answer: sized, copied, compared, marked, held. -/
namespace Go.Proofs.YtkigmpeanllimaaGreatDoor.Harn
open Go.RowKit Go.Proofs.YtkigmpeanllimaaGreatDoor.Mem Go.Proofs.YtkigmpeanllimaaGreatDoor.Mark

/-- The slice v reads as the texts l. -/
def Strs (W : World) (v : Value) (l : List ByteArray) : Prop :=
  ∃ a cap, v = .slice a l.length cap ∧ ∀ j (h : j < l.length), ∃ b o, a = some ⟨b, o, none⟩ ∧ W.cell? ⟨b, o + j, none⟩ = some (.string l[j])

theorem Strs.below {W W' : World} {v : Value} {l : List ByteArray} (h : Strs W v l) (hb : Below W.heap.size W W') : Strs W' v l := by
  obtain ⟨a, cap, hv, hc⟩ := h
  refine ⟨a, cap, hv, fun j hj => ?_⟩
  obtain ⟨b, o, ha, hcell⟩ := hc j hj
  refine ⟨b, o, ha, ?_⟩
  rw [hb.cell (World.block_lt_of_cell? W _ hcell)]
  exact hcell
theorem Strs.drewN {W : World} {v : Value} {l : List ByteArray} (h : Strs W v l) (n : Nat) : Strs (W.drewN n) v l := h

theorem infoStr : (Tryz.prog.info? 9).map (fun i => (i.zero, i.size, i.bytes)) = some (some (.string ByteArray.empty), 1, 16) := by kernel_rfl
theorem underStrs : Tryz.prog.underlying 23 = some (.slice 9) := by kernel_rfl

theorem make_strs (n : Nat) (hn : n ≤ 2000000) (w : World) :
    ∃ W1, (Instr.makeSlice 23 (.int .i64 (n : Int)) (.int .i64 (n : Int))).run Tryz.prog w = .ok (.slice (some ⟨w.heap.size, 0, none⟩) n n) W1 ∧ HasRow W1 w.heap.size (List.replicate n (.string ByteArray.empty)) 9 ∧ Below w.heap.size w W1 ∧ W1.heap.size = w.heap.size + 1 := by
  refine ⟨_, run_make_row' (P := Tryz.prog) 23 9 (.string ByteArray.empty) 16 underStrs infoStr rfl .i64 .i64 n (by omega) (by omega) w, ?_, (Below.refl _ _).alloc (Nat.le_refl _) _, by simp⟩
  unfold HasRow
  rw [← toList_madeCells_one]
  show (w.heap.push _)[w.heap.size]? = _
  simp

/-- A list of texts of which the first k are laid. -/
def copyTo (l : List ByteArray) (k : Nat) : List Value := (l.take k).map Value.string ++ List.replicate (l.length - k) (.string ByteArray.empty)
theorem copyTo_start (l : List ByteArray) : copyTo l 0 = List.replicate l.length (.string ByteArray.empty) := by simp [copyTo]
theorem copyTo_end (l : List ByteArray) : copyTo l l.length = l.map Value.string := by simp [copyTo]
theorem copyTo_cell (l : List ByteArray) (k : Nat) (hk : k < l.length) : (copyTo l k)[k]? = some (.string ByteArray.empty) := by
  have hl : ((l.take k).map Value.string).length = k := by simp; omega
  unfold copyTo
  rw [List.getElem?_append_right (by omega), hl, Nat.sub_self, List.getElem?_replicate, if_pos (by omega)]
theorem copyTo_set (l : List ByteArray) (k : Nat) (hk : k < l.length) : (copyTo l k).set k (.string l[k]) = copyTo l (k + 1) := by
  have hl : ((l.take k).map Value.string).length = k := by simp; omega
  unfold copyTo
  rw [List.set_append_right _ _ (by omega), hl, Nat.sub_self, show l.length - k = (l.length - (k + 1)) + 1 by omega, List.replicate_succ, List.set_cons_zero, List.take_succ_eq_append_getElem hk]
  simp only [List.map_append, List.map_cons, List.map_nil, List.append_assoc, List.singleton_append]

/-- What a list of texts weighs. -/
def wt : List ByteArray → Nat
  | [] => 0
  | t :: l => t.size + wt l
theorem wt_append (a b : List ByteArray) : wt (a ++ b) = wt a + wt b := by
  induction a with
  | nil => simp [wt]
  | cons t a ih => simp only [List.cons_append, wt, ih]; omega
theorem wt_take (l : List ByteArray) (k : Nat) (h : k < l.length) : wt (l.take (k + 1)) = wt (l.take k) + l[k].size := by
  rw [List.take_succ_eq_append_getElem h, wt_append]
  simp [wt]
theorem wt_le (l : List ByteArray) (k : Nat) : wt (l.take k) ≤ wt l := by
  have h := wt_append (l.take k) (l.drop k)
  rw [List.take_append_drop] at h
  omega

theorem bcell {W w1 : World} (hb : Below W.heap.size W w1) : (∀ b o, b < W.heap.size → w1.cell? ⟨b, o, none⟩ = W.cell? ⟨b, o, none⟩) ∧ (∀ b o, b < W.heap.size → w1.frozen? ⟨b, o, none⟩ = W.frozen? ⟨b, o, none⟩) :=
  ⟨fun b o h => hb.cell (p := ⟨b, o, none⟩) h, fun b o h => hb.frozen (p := ⟨b, o, none⟩) h⟩

/-- The texts l lie in block g from place o on, and may be written. -/
def StrsAt (W : World) (g o : Nat) (l : List ByteArray) : Prop := ∀ j (h : j < l.length), W.cell? ⟨g, o + j, none⟩ = some (.string l[j]) ∧ W.frozen? ⟨g, o + j, none⟩ = false

theorem StrsAt.strs {W : World} {g o : Nat} {l : List ByteArray} (h : StrsAt W g o l) (c : Nat) : Strs W (.slice (some ⟨g, o, none⟩) l.length c) l :=
  ⟨_, c, rfl, fun j hj => ⟨g, o, rfl, (h j hj).1⟩⟩
theorem StrsAt.below {W W' : World} {g o : Nat} {l : List ByteArray} (h : StrsAt W g o l) (hb : Below W.heap.size W W') : StrsAt W' g o l := fun j hj => by
  have hl := World.block_lt_of_cell? W _ (h j hj).1
  rw [hb.cell hl, hb.frozen hl]
  exact h j hj
theorem StrsAt.set {W : World} {g o i : Nat} {l : List ByteArray} (h : StrsAt W g o l) (hi : i < l.length) (t : ByteArray) : StrsAt (W.setCell ⟨g, o + i, none⟩ (.string t)) g o (l.set i t) := fun j hj => by
  have hj2 : j < l.length := by simpa using hj
  refine ⟨?_, ?_⟩
  · by_cases e : i = j
    · subst e
      rw [List.getElem_set_self]
      exact World.cell?_setCell_same _ _ _ (h i hi).1
    · rw [List.getElem_set_ne e]
      rw [World.cell?_setCell_other W _ _ _ (by intro h2; injection h2 with _ h3 _; omega)]
      exact (h j hj2).1
  · have := (h j hj2).2
    simpa using this

/-- The first i of the texts are marked. -/
def markTo (l : List ByteArray) (k i : Nat) : List ByteArray := marks k i ++ l.drop i
theorem length_markTo (l : List ByteArray) (k i : Nat) (h : i ≤ l.length) : (markTo l k i).length = l.length := by simp [markTo, length_marks]; omega
theorem markTo_start (l : List ByteArray) (k : Nat) : markTo l k 0 = l := by simp [markTo, marks]
theorem markTo_end (l : List ByteArray) (k : Nat) : markTo l k l.length = marks k l.length := by simp [markTo]
theorem markTo_set (l : List ByteArray) (k i : Nat) (h : i < l.length) : (markTo l k i).set i (markB (k + i)) = markTo l k (i + 1) := by
  have hl := length_marks k i
  unfold markTo
  rw [List.set_append_right _ _ (by omega), hl, Nat.sub_self, List.drop_eq_getElem_cons h, List.set_cons_zero]
  simp [marks, List.range_succ]

end Go.Proofs.YtkigmpeanllimaaGreatDoor.Harn

/- What the laws' own functions on lists of pending writes answer. -/
namespace Go.Proofs.YtkigmpeanllimaaGreatDoor.Harn
open Go.RowKit Go.Proofs.YtkigmpeanllimaaGreatDoor.Mem Go.Proofs.YtkigmpeanllimaaGreatDoor.Mark

/-- The slice v reads as the pending writes l. -/
def Pends (W : World) (v : Value) (l : List (Int × ByteArray)) : Prop :=
  ∃ a cap, v = .slice a l.length cap ∧ ∀ j (h : j < l.length), ∃ b o, a = some ⟨b, o, none⟩ ∧ W.cell? ⟨b, o + j * 2, none⟩ = some (.int .i64 l[j].1) ∧ W.cell? ⟨b, o + j * 2 + 1, none⟩ = some (.string l[j].2)

theorem Pends.below {W W' : World} {v : Value} {l : List (Int × ByteArray)} (h : Pends W v l) (hb : Below W.heap.size W W') : Pends W' v l := by
  obtain ⟨a, cap, hv, hc⟩ := h
  refine ⟨a, cap, hv, fun j hj => ?_⟩
  obtain ⟨b, o, ha, h1, h2⟩ := hc j hj
  refine ⟨b, o, ha, ?_, ?_⟩
  · rw [hb.cell (World.block_lt_of_cell? W _ h1)]; exact h1
  · rw [hb.cell (World.block_lt_of_cell? W _ h2)]; exact h2

/-- The pending writes l lie in block g from place o on, and may be written. -/
def PendsAt (W : World) (g o : Nat) (l : List (Int × ByteArray)) : Prop := ∀ j (h : j < l.length), W.cell? ⟨g, o + j * 2, none⟩ = some (.int .i64 l[j].1) ∧ W.cell? ⟨g, o + j * 2 + 1, none⟩ = some (.string l[j].2) ∧ W.frozen? ⟨g, o + j * 2, none⟩ = false ∧ W.frozen? ⟨g, o + j * 2 + 1, none⟩ = false

theorem PendsAt.pends {W : World} {g o : Nat} {l : List (Int × ByteArray)} (h : PendsAt W g o l) (c : Nat) : Pends W (.slice (some ⟨g, o, none⟩) l.length c) l :=
  ⟨_, c, rfl, fun j hj => ⟨g, o, rfl, (h j hj).1, (h j hj).2.1⟩⟩
theorem PendsAt.below {W W' : World} {g o : Nat} {l : List (Int × ByteArray)} (h : PendsAt W g o l) (hb : Below W.heap.size W W') : PendsAt W' g o l := fun j hj => by
  obtain ⟨h1, h2, h3, h4⟩ := h j hj
  have l1 := World.block_lt_of_cell? W _ h1
  have l2 := World.block_lt_of_cell? W _ h2
  exact ⟨(hb.cell l1).trans h1, (hb.cell l2).trans h2, (hb.frozen l1).trans h3, (hb.frozen l2).trans h4⟩
theorem PendsAt.set {W : World} {g o i : Nat} {l : List (Int × ByteArray)} (h : PendsAt W g o l) (hi : i < l.length) (x : Int) (t : ByteArray) : PendsAt ((W.setCell ⟨g, o + i * 2, none⟩ (.int .i64 x)).setCell ⟨g, o + i * 2 + 1, none⟩ (.string t)) g o (l.set i (x, t)) := fun j hj => by
  have hj2 : j < l.length := by simpa using hj
  obtain ⟨h1, h2, h3, h4⟩ := h j hj2
  obtain ⟨k1, k2, _, _⟩ := h i hi
  refine ⟨?_, ?_, by simpa using h3, by simpa using h4⟩
  · rw [World.cell?_setCell_other _ _ _ _ (by intro e; injection e with _ e2 _; omega)]
    by_cases e : i = j
    · subst e
      rw [List.getElem_set_self]
      exact World.cell?_setCell_same _ _ _ k1
    · rw [List.getElem_set_ne e, World.cell?_setCell_other _ _ _ _ (by intro e; injection e with _ e2 _; omega)]
      exact h1
  · by_cases e : i = j
    · subst e
      rw [List.getElem_set_self]
      refine World.cell?_setCell_same _ _ _ (u := .string l[i].2) ?_
      rw [World.cell?_setCell_other _ _ _ _ (by intro e; injection e with _ e2 _; omega)]
      exact k2
    · rw [List.getElem_set_ne e, World.cell?_setCell_other _ _ _ _ (by intro e; injection e with _ e2 _; omega), World.cell?_setCell_other _ _ _ _ (by intro e; injection e with _ e2 _; omega)]
      exact h2

theorem infoPend : (Tryz.prog.info? 78).map (fun i => (i.zero, i.size, i.bytes)) = some (some (.agg #[.int .i64 0, .string ByteArray.empty]), 2, 24) := by kernel_rfl
theorem underPends : Tryz.prog.underlying 24 = some (.slice 78) := by kernel_rfl

theorem make_pends (n : Nat) (hn : n ≤ 2000000) (w : World) :
    ∃ W1, (Instr.makeSlice 24 (.int .i64 (n : Int)) (.int .i64 (n : Int))).run Tryz.prog w = .ok (.slice (some ⟨w.heap.size, 0, none⟩) n n) W1 ∧ PendsAt W1 w.heap.size 0 (List.replicate n (0, ByteArray.empty)) ∧ Below w.heap.size w W1 ∧ W1.heap.size = w.heap.size + 1 := by
  obtain ⟨i, hi, hz, hs, hb⟩ := info_parts infoPend
  have hr := run_make (P := Tryz.prog) w 24 78 i _ underPends hi hz .i64 .i64 (n : Int) (n : Int) (by omega) (by omega) (by rw [hb]; omega) (by omega)
  simp only [Int.toNat_natCast] at hr
  refine ⟨_, hr, fun j hj => ?_, (Below.refl _ _).alloc (Nat.le_refl _) _, by simp⟩
  have hjn : j < n := by simpa using hj
  rw [hs]
  have e0 : (Value.agg #[.int .i64 0, .string ByteArray.empty]).cells = #[.int .i64 0, .string ByteArray.empty] := rfl
  rw [e0]
  refine ⟨?_, ?_, by simp, by simp⟩
  · have h1 : (j * 2) % 2 = 0 := by omega
    simp [madeCells, show j * 2 < n * 2 by omega, h1]
  · have h1 : (j * 2 + 1) % 2 = 1 := by omega
    simp [madeCells, show j * 2 + 1 < n * 2 by omega, h1]

/-- A list of pending writes of which the first k are laid. -/
def pcopy (l : List (Int × ByteArray)) (k : Nat) : List (Int × ByteArray) := l.take k ++ List.replicate (l.length - k) (0, ByteArray.empty)
theorem length_pcopy (l : List (Int × ByteArray)) (k : Nat) (h : k ≤ l.length) : (pcopy l k).length = l.length := by simp [pcopy]; omega
theorem pcopy_start (l : List (Int × ByteArray)) : pcopy l 0 = List.replicate l.length (0, ByteArray.empty) := by simp [pcopy]
theorem pcopy_end (l : List (Int × ByteArray)) : pcopy l l.length = l := by simp [pcopy]
theorem pcopy_set (l : List (Int × ByteArray)) (k : Nat) (hk : k < l.length) : (pcopy l k).set k l[k] = pcopy l (k + 1) := by
  have hl : (l.take k).length = k := by simp; omega
  unfold pcopy
  rw [List.set_append_right _ _ (by omega), hl, Nat.sub_self, show l.length - k = (l.length - (k + 1)) + 1 by omega, List.replicate_succ, List.set_cons_zero, List.take_succ_eq_append_getElem hk]
  simp only [List.append_assoc, List.singleton_append]

end Go.Proofs.YtkigmpeanllimaaGreatDoor.Harn

/- Lists of pending writes, sized, marked and held by the laws' own functions. -/
namespace Go.Proofs.YtkigmpeanllimaaGreatDoor.Harn
open Go.RowKit Go.Proofs.YtkigmpeanllimaaGreatDoor.Mem Go.Proofs.YtkigmpeanllimaaGreatDoor.Mark

theorem PendsAt.set1 {W : World} {g o i : Nat} {l : List (Int × ByteArray)} (h : PendsAt W g o l) (hi : i < l.length) (x : Int) : PendsAt (W.setCell ⟨g, o + i * 2, none⟩ (.int .i64 x)) g o (l.set i (x, l[i].2)) := fun j hj => by
  have hj2 : j < l.length := by simpa using hj
  obtain ⟨h1, h2, h3, h4⟩ := h j hj2
  obtain ⟨k1, k2, _, _⟩ := h i hi
  refine ⟨?_, ?_, by simpa using h3, by simpa using h4⟩
  · by_cases e : i = j
    · subst e
      rw [List.getElem_set_self]
      exact World.cell?_setCell_same _ _ _ k1
    · rw [List.getElem_set_ne e, World.cell?_setCell_other _ _ _ _ (by intro e; injection e with _ e2 _; omega)]
      exact h1
  · rw [World.cell?_setCell_other _ _ _ _ (by intro e; injection e with _ e2 _; omega)]
    by_cases e : i = j
    · subst e
      rw [List.getElem_set_self]
      exact h2
    · rw [List.getElem_set_ne e]
      exact h2
theorem PendsAt.set2 {W : World} {g o i : Nat} {l : List (Int × ByteArray)} (h : PendsAt W g o l) (hi : i < l.length) (t : ByteArray) : PendsAt (W.setCell ⟨g, o + i * 2 + 1, none⟩ (.string t)) g o (l.set i (l[i].1, t)) := fun j hj => by
  have hj2 : j < l.length := by simpa using hj
  obtain ⟨h1, h2, h3, h4⟩ := h j hj2
  obtain ⟨k1, k2, _, _⟩ := h i hi
  refine ⟨?_, ?_, by simpa using h3, by simpa using h4⟩
  · rw [World.cell?_setCell_other _ _ _ _ (by intro e; injection e with _ e2 _; omega)]
    by_cases e : i = j
    · subst e
      rw [List.getElem_set_self]
      exact h1
    · rw [List.getElem_set_ne e]
      exact h1
  · by_cases e : i = j
    · subst e
      rw [List.getElem_set_self]
      exact World.cell?_setCell_same _ _ _ k2
    · rw [List.getElem_set_ne e, World.cell?_setCell_other _ _ _ _ (by intro e; injection e with _ e2 _; omega)]
      exact h2

def marksP (k n : Nat) : List (Int × ByteArray) := (List.range n).map fun i => (((k + 2 * i : Nat) : Int), markB (k + 2 * i + 1))
theorem length_marksP (k n : Nat) : (marksP k n).length = n := by simp [marksP]
def markPTo (l : List (Int × ByteArray)) (k i : Nat) : List (Int × ByteArray) := marksP k i ++ l.drop i
theorem length_markPTo (l : List (Int × ByteArray)) (k i : Nat) (h : i ≤ l.length) : (markPTo l k i).length = l.length := by simp [markPTo, length_marksP]; omega
theorem markPTo_start (l : List (Int × ByteArray)) (k : Nat) : markPTo l k 0 = l := by simp [markPTo, marksP]
theorem markPTo_end (l : List (Int × ByteArray)) (k : Nat) : markPTo l k l.length = marksP k l.length := by simp [markPTo]
theorem markPTo_set (l : List (Int × ByteArray)) (k i : Nat) (h : i < l.length) : (markPTo l k i).set i (((k + 2 * i : Nat) : Int), markB (k + 2 * i + 1)) = markPTo l k (i + 1) := by
  have hl := length_marksP k i
  unfold markPTo
  rw [List.set_append_right _ _ (by omega), hl, Nat.sub_self, List.drop_eq_getElem_cons h, List.set_cons_zero]
  simp [marksP, List.range_succ]

end Go.Proofs.YtkigmpeanllimaaGreatDoor.Harn

/- A disk that came in, opened: its sectors and its pending writes. -/
namespace Go.Proofs.YtkigmpeanllimaaGreatDoor.Harn
open Go.ChangeShapes Go.WideShapes Go.ChangeAt Go.RowKit Go.Deep
variable {H : Type} {enc : TypeId × Value → H}

theorem at_none {W : World} {a : Addr} {v : Value} (h : W.cell? (a.add 0) = some v) : a = ⟨a.block, a.off, none⟩ ∧ ∀ j, a.add j = ⟨a.block, a.off + j, none⟩ := by
  have hs : a.spot = none := by simpa [Addr.add] using World.cell?_spot h
  obtain ⟨b, o, s⟩ := a
  simp only at hs
  subst hs
  refine ⟨rfl, fun j => ?_⟩
  unfold Addr.add
  split <;> simp_all

theorem open_strs_at {P : Program} {t e : TypeId} {W : World} {sp : Nat → Bool} {fuel : Nat} {v : Value} {x : DataW H × List MemPlace} (ht : P.underlying t = some (.slice e)) (he : P.underlying e = some .string) (hc : P.cellsOf e = 1)
    (h : DataW.trod enc P W 0 sp true fuel t [v] = some x) : ∃ l, Strs W v l ∧ l.length ≤ maxLen ∧ ∀ t ∈ l, t.size ≤ maxLen := by
  rcases open_strings ht he hc h with ⟨hcs, _⟩ | ⟨a, len, cap, ss, hcs, _, hl, hm, hz, _, hcell, hsz⟩
  · simp at hcs
    exact ⟨[], ⟨none, 0, hcs, fun j hj => by simp at hj⟩, by simp, by simp⟩
  · simp at hcs
    have hls : len ≤ ss.length := by rw [hz]; split <;> omega
    have hlt : (ss.take len).length = len := by simp; omega
    refine ⟨ss.take len, ⟨some a, cap, by rw [hlt]; exact hcs, fun j hj => ?_⟩, by omega, fun t ht => hsz t (List.mem_of_mem_take ht)⟩
    have hj2 : j < len := by omega
    have hcj := hcell j (by omega)
    obtain ⟨e1, e2⟩ := at_none (hcell 0 (by omega))
    refine ⟨a.block, a.off, by rw [← e1], ?_⟩
    rw [← e2 j, hcj]
    simp [List.getD, List.getElem?_eq_getElem (show j < ss.length by omega)]

def strV : Value → ByteArray | .string s => s | _ => ByteArray.empty

theorem open_pends_at {P : Program} {t e : TypeId} {f0 f1 : Field} {W : World} {sp : Nat → Bool} {fuel : Nat} {v : Value} {x : DataW H × List MemPlace} (ht : P.underlying t = some (.slice e)) (he : P.underlying e = some (.struct #[f0, f1]))
    (ce : P.cellsOf e = 2) (o0 : f0.offset = 0) (o1 : f1.offset = 1) (c0 : P.cellsOf f0.type = 1) (c1 : P.cellsOf f1.type = 1) (u0 : P.underlying f0.type = some (.int .i64)) (u1 : P.underlying f1.type = some .string)
    (h : DataW.trod enc P W 0 sp true fuel t [v] = some x) : ∃ l, Pends W v l ∧ l.length ≤ maxLen ∧ ∀ y ∈ l, y.2.size ≤ maxLen ∧ -9223372036854775808 ≤ y.1 ∧ y.1 ≤ 9223372036854775807 := by
  rcases open_slice_pairs ht he ce o0 o1 c0 c1 h with ⟨hcs, _⟩ | ⟨a, len, cap, m, n, V0, V1, D0, D1, P0, P1, hcs, _, hl, hm, hmm, _, hx⟩
  · simp at hcs
    exact ⟨[], ⟨none, 0, hcs, fun j hj => by simp at hj⟩, by simp, by simp⟩
  · simp at hcs
    have hlm : len ≤ m := by rw [hmm]; split <;> omega
    have each : ∀ i, i < len → ∃ k s, V0 i = .int .i64 k ∧ V1 i = .string s ∧ s.size ≤ maxLen ∧ (Lit.int .i64 k).wf = true := by
      intro i hi
      obtain ⟨_, _, h3, h4⟩ := hx i (by omega)
      obtain ⟨k, e1, _, hw⟩ := DataW.trod_int u0 h3
      obtain ⟨s, e2, _, hs⟩ := DataW.trod_string u1 h4
      simp at e1 e2
      exact ⟨k, s, e1, e2, hs, hw⟩
    refine ⟨(List.range len).map fun i => (intOf (V0 i), strV (V1 i)), ⟨some a, cap, by simpa using hcs, fun j hj => ?_⟩, by simp; omega, fun y hy => ?_⟩
    · have hj2 : j < len := by simpa using hj
      obtain ⟨h1, h2, _, _⟩ := hx j (by omega)
      obtain ⟨k, s, e1, e2, _, _⟩ := each j hj2
      obtain ⟨a1, a2⟩ := at_none (by have := (hx 0 (by omega)).1; simpa using this)
      refine ⟨a.block, a.off, by rw [← a1], ?_, ?_⟩
      · rw [← a2, h1]; simp [e1, intOf]
      · rw [Nat.add_assoc, ← a2, h2]; simp [e2, strV]
    · simp only [List.mem_map, List.mem_range] at hy
      obtain ⟨i, hi, rfl⟩ := hy
      obtain ⟨k, s, e1, e2, hs, hw⟩ := each i hi
      have hb := bounds_i64 hw
      exact ⟨by simp [e2, strV, hs], by simp [e1, intOf]; exact hb.1, by simp [e1, intOf]; exact hb.2⟩

end Go.Proofs.YtkigmpeanllimaaGreatDoor.Harn

/- What the laws' own functions on disks answer. -/
namespace Go.Proofs.YtkigmpeanllimaaGreatDoor.Harn
open Go.RowKit Go.Proofs.YtkigmpeanllimaaGreatDoor.Mem Go.Proofs.YtkigmpeanllimaaGreatDoor.Mark

theorem row_strs {W : World} {g : Nat} {l : List ByteArray} {T : TypeId} (h : HasRow W g (l.map Value.string) T) : StrsAt W g 0 l := fun j hj => by
  refine ⟨?_, by rw [Mem.frozen_of_row h]⟩
  rw [Mem.cell_of_row h]
  simp [hj]

theorem PendsAt.other {W : World} {g o : Nat} {l : List (Int × ByteArray)} (h : PendsAt W g o l) {a : Addr} (ha : a.block ≠ g) (v : Value) : PendsAt (W.setCell a v) g o l := fun j hj => by
  obtain ⟨h1, h2, h3, h4⟩ := h j hj
  refine ⟨?_, ?_, by simpa using h3, by simpa using h4⟩
  · rw [World.cell?_setCell_other _ _ _ _ (by intro e; exact ha (by rw [e]))]; exact h1
  · rw [World.cell?_setCell_other _ _ _ _ (by intro e; exact ha (by rw [e]))]; exact h2

end Go.Proofs.YtkigmpeanllimaaGreatDoor.Harn

/- What the program's join answers: the two texts in one, in new memory. -/
namespace Go.Proofs.YtkigmpeanllimaaGreatDoor.Join
open Go.RowKit Go.Proofs.YtkigmpeanllimaaGreatDoor.Mem
theorem info8 : (Tryz.prog.info? 5).map (fun i => (i.zero, i.size, i.bytes)) = some (some (.int .u8 0), 1, 1) := by kernel_rfl
theorem under : Tryz.prog.underlying 22 = some (.slice 5) := by kernel_rfl
theorem underS : Tryz.prog.underlying 9 = some .string := by kernel_rfl
theorem under8 : Tryz.prog.underlying 5 = some (.int .u8) := by kernel_rfl

set_option maxHeartbeats 400000 in
theorem join_any (a b : ByteArray) (w : World) (ha : a.size ≤ 10000000) (hb : b.size ≤ 10000000) :
    Calls Tryz.prog 60 #[.string a, .string b] w fun e w' => e = .returned (.string (a ++ b)) ∧ Below w.heap.size w w' := by
  obtain ⟨W1, hmk, hg1, hb1, hz1⟩ := make_bytes (P := Tryz.prog) 22 5 under info8 (a.size + b.size) (by omega) w
  obtain ⟨W2, hc2, hg2, hb2, hz2⟩ := copy_str (P := Tryz.prog) 22 9 3 5 under info8 W1 w.heap.size 0 (a.size + b.size) (a.size + b.size) a _ hg1 (by omega) (by simp)
  have hla : (Lib.byteCells a.data.toList).length = a.size := by simp [Lib.byteCells]
  have hlb : (Lib.byteCells b.data.toList).length = b.size := by simp [Lib.byteCells]
  by_cases hbe : b.size = 0
  · obtain rfl : b = ByteArray.empty := by
      apply ByteArray.ext; apply Array.ext' ; exact List.eq_nil_of_length_eq_zero hbe
    have hce := copy_empty (P := Tryz.prog) 22 9 3 5 under info8
    have hcv := text_of_row (P := Tryz.prog) 22 9 5 under under8 underS W2 w.heap.size a.size a.size a.data.toList [] (bytes_data a) (by simpa using hg2)
    have hE : Hid ((⟨a.data.toList.toArray⟩ : ByteArray) = a ++ ByteArray.empty) := by show _ = _; rw [← append_eq]; simp
    have HB : Hid (Below w.heap.size w W2) := hb1.trans hb2
    simp at hmk hc2
    clear hg1 hg2 hb1 hb2 hla hlb hbe
    go_enter Tryz.func60, Tryz.ntmps60
    go_wp2
    go_ret
    exact ⟨by simp, HB.out⟩
  · obtain ⟨W3, hc3, hg3, hb3, hz3⟩ := copy_str (P := Tryz.prog) 22 9 3 5 under info8 W2 w.heap.size a.size b.size b.size b _ hg2 (by omega) (by simp [hla])
    have hcv := text_of_row (P := Tryz.prog) 22 9 5 under under8 underS W3 w.heap.size (a.size + b.size) (a.size + b.size) (a.data.toList ++ b.data.toList) [] (by simp) (by
      have e : List.take a.size (List.take 0 (List.replicate (a.size + b.size) (Value.int .u8 0)) ++ Lib.byteCells a.data.toList ++ List.drop (0 + a.size) (List.replicate (a.size + b.size) (Value.int .u8 0))) = Lib.byteCells a.data.toList := by
        simp [hla]
      rw [e] at hg3
      have e2 : List.drop (a.size + b.size) (List.map (fun b : UInt8 => Value.int IntKind.u8 (b.toNat : Int)) a.data.toList) = [] := List.drop_eq_nil_of_le (by simp)
      simpa [List.drop_append, hla, Lib.byteCells, e2] using hg3)
    have HE : Hid ((⟨(a.data.toList ++ b.data.toList).toArray⟩ : ByteArray) = a ++ b) := append_eq a b
    have HB : Hid (Below w.heap.size w W3) := (hb1.trans hb2).trans hb3
    generalize (⟨(a.data.toList ++ b.data.toList).toArray⟩ : ByteArray) = ab at *
    simp only [Int.natCast_add] at hmk
    clear hg1 hg2 hb1 hb2 hla hlb hg3 hb3
    have hbn : ¬ b = ByteArray.empty := by rintro rfl; exact hbe rfl
    go_enter Tryz.func60, Tryz.ntmps60
    go_wp2
    go_ret
    have he := HE.out
    subst he
    exact ⟨rfl, HB.out⟩
end Go.Proofs.YtkigmpeanllimaaGreatDoor.Join

/- A map of pending writes by their places, told by what stands at each place. -/
namespace Go.Proofs.YtkigmpeanllimaaGreatDoor.Disk
open Go.RowKit Go.Proofs.YtkigmpeanllimaaGreatDoor.Mem Go.Proofs.YtkigmpeanllimaaGreatDoor.Harn Go.Maps

/-- A pending write as a value, and as it is read. -/
def pv (y : Int × ByteArray) : Value := .agg #[.int .i64 y.1, .string y.2]
def pd (y : Int × ByteArray) : DataW Unit := .agg [.lit (.int .i64 y.1), .lit (.string y.2.data.toList)]
def pendElem (v : Value) : Option (DataW Unit × List MemPlace) := match v with
  | .agg cs => (match cs.toList with
    | [.int .i64 a, .string s] => some (pd (a, s), [])
    | _ => none)
  | _ => none
theorem pendElem_mk (y : Int × ByteArray) : pendElem (pv y) = some (pd y, []) := rfl
theorem pendElem_inv {v : Value} {y : Int × ByteArray} {ps : List MemPlace} (h : pendElem v = some (pd y, ps)) : v = pv y := by
  unfold pendElem at h
  split at h
  · rename_i cs
    split at h
    · rename_i a s e
      simp only [Option.some.injEq, Prod.mk.injEq, pd, DataW.agg.injEq, List.cons.injEq, DataW.lit.injEq, Lit.int.injEq, Lit.string.injEq, true_and, and_true] at h
      obtain ⟨⟨h1, h2⟩, _⟩ := h
      have e2 : s = y.2 := ByteArray.ext (Array.toList_inj.1 h2)
      have e3 : cs = #[.int .i64 a, .string s] := Array.toList_inj.1 e
      rw [e3, h1, e2]
      rfl
    · cases h
  · cases h

def zp : Int × ByteArray := (0, ByteArray.empty)
theorem zeroP (w : World) : (zeroValue 78).run Tryz.prog w = .ok (pv zp) w := by kernel_rfl
theorem keyLaw : Keyed Tryz.prog 2 := int_keyed Tryz.underlying2
theorem keyI {x : Int} (h : (Lit.int .i64 x).wf = true) : keyOf Tryz.prog 2 (.int .i64 x) = some (.int .i64 x) := keyOf_int_mk Tryz.underlying2 h

/-- Block b is a map that has at each place x what f says. -/
def HasMap (W : World) (b n : Nat) (f : Int → Option (Int × ByteArray)) : Prop :=
  ∃ D : DataW Unit, W.ownsMap Tryz.prog 2 pendElem b n D ∧ ∀ x, (Lit.int .i64 x).wf = true → Maps.has D (.int .i64 x) = (f x).isSome ∧ ∀ z, D.atKey (.int .i64 x) z = (match f x with | some y => pd y | none => z)

theorem HasMap.lt {W : World} {b n : Nat} {f : Int → Option (Int × ByteArray)} (h : HasMap W b n f) : b < W.heap.size := by
  obtain ⟨D, h, _⟩ := h
  exact h.lt
theorem HasMap.kept {W W' : World} {b n : Nat} {f : Int → Option (Int × ByteArray)} (h : HasMap W b n f) (hb : W'.heap[b]? = W.heap[b]?) : HasMap W' b n f := by
  obtain ⟨D, ⟨es, clock, h1, h2⟩, h3⟩ := h
  exact ⟨D, ⟨es, clock, hb.trans h1, h2⟩, h3⟩
theorem map_made (w : World) : HasMap (w.alloc (.map #[] 0)) w.heap.size 0 (fun _ => none) :=
  ⟨.map [], World.ownsMap_made _ _ _ _, fun _ _ => ⟨rfl, fun _ => rfl⟩⟩

theorem map_look {W : World} {b n : Nat} {f : Int → Option (Int × ByteArray)} (h : HasMap W b n f) {x : Int} (hx : (Lit.int .i64 x).wf = true) :
    (Instr.lookup 79 (.map (some b)) (.int .i64 x) true).run Tryz.prog W = .ok (.tuple #[pv ((f x).getD zp), .bool (f x).isSome]) W := by
  obtain ⟨D, hD, hf⟩ := h
  obtain ⟨v, ps, hr, hv⟩ := hD.look_ok keyLaw Tryz.underlying79 (zeroP W) (pendElem_mk zp) (keyI hx)
  obtain ⟨h1, h2⟩ := hf x hx
  rw [h2 (pd zp)] at hv
  rw [hr, h1]
  cases e : f x with
  | none => rw [e] at hv; rw [pendElem_inv hv]; rfl
  | some y => rw [e] at hv; rw [pendElem_inv hv]; rfl

set_option maxRecDepth 100000 in
theorem map_store {W : World} {b n : Nat} {f : Int → Option (Int × ByteArray)} (h : HasMap W b n f) (hn : n < maxLen) {x : Int} (hx : (Lit.int .i64 x).wf = true) (y : Int × ByteArray) :
    ∃ W', (Instr.mapUpdate 79 (.map (some b)) (.int .i64 x) (pv y)).run Tryz.prog W = .ok () W' ∧ HasMap W' b (n + 1) (fun z => if x = z then some y else f z) ∧ W.grownBy W' (some b) := by
  obtain ⟨D, hD, hf⟩ := h
  obtain ⟨W', hr, h1, h2⟩ := hD.update keyLaw Tryz.underlying79 hn (keyI hx) (pendElem_mk y)
  refine ⟨W', hr, ⟨_, h1, fun z hz => ?_⟩, h2⟩
  by_cases e : x = z
  · subst e
    refine ⟨by simpa using has_put_same hD.isMap (keyLaw.key (keyI hx)) _, fun d => ?_⟩
    rw [atKey_put_same hD.isMap (keyLaw.key (keyI hx))]
    simp
  · have e2 : (Lit.int .i64 z : Lit) ≠ .int .i64 x := fun h => e (by injection h with _ h2; exact h2.symm)
    refine ⟨?_, fun d => ?_⟩
    · rw [has_put_other e2, (hf z hz).1]; simp [e]
    · rw [atKey_put_other e2, (hf z hz).2 d]; simp [e]

set_option maxRecDepth 100000 in
theorem map_drop {W : World} {b n : Nat} {f : Int → Option (Int × ByteArray)} (h : HasMap W b n f) {x : Int} (hx : (Lit.int .i64 x).wf = true) (ty : TypeId) :
    ∃ W', (Builtin.delete_ #[79, 2] ty #[.map (some b), .int .i64 x]).run Tryz.prog W = .ok (.tuple #[]) W' ∧ HasMap W' b n (fun z => if x = z then none else f z) ∧ W.grownBy W' (some b) := by
  obtain ⟨D, hD, hf⟩ := h
  obtain ⟨W', hr, h1, h2⟩ := hD.drop keyLaw Tryz.underlying79 (keyI hx) ty
  refine ⟨W', hr, ⟨_, h1, fun z hz => ?_⟩, h2.grown⟩
  by_cases e : x = z
  · subst e
    refine ⟨by simpa using has_del_same, fun d => ?_⟩
    rw [atKey_del_same]
    simp
  · have e2 : (Lit.int .i64 z : Lit) ≠ .int .i64 x := fun h => e (by injection h with _ h2; exact h2.symm)
    refine ⟨?_, fun d => ?_⟩
    · rw [has_del_other e2, (hf z hz).1]; simp [e]
    · rw [atKey_del_other e2, (hf z hz).2 d]; simp [e]

/-! ### at the operation, for the walk -/
section
variable (w : World) {ops : Array Oper} {rest : List Oper} {o : Oper} {a : Act} {Q : Exit → Act → World → Prop}
theorem wp_map_store (hg : o.guard = none) (m x v : Operand) (hop : o.op = Op.mapUpdate 79 m x v) (b n : Nat) (f : Int → Option (Int × ByteArray)) (h : HasMap w b n f) (hn : n < maxLen) (k : Int) (y : Int × ByteArray)
    (hm : a.eval m = .map (some b)) (hx : a.eval x = .int .i64 k) (hv : a.eval v = pv y) (hk : (Lit.int .i64 k).wf = true)
    (hK : ∀ w', HasMap w' b (n + 1) (fun z => if k = z then some y else f z) → w.grownBy w' (some b) → wpList Tryz.prog ops Q rest (a.put o.dst undef) w') : wpList Tryz.prog ops Q (o :: rest) a w := by
  refine wpList_plain hg fun K' hK' => ?_
  obtain ⟨w', hrun, r1, r2⟩ := map_store h hn hk y
  unfold Oper.wp
  simp [execOp, hop, hm, hx, hv, hrun, Result.andThen]
  exact hK' _ _ (hK w' r1 r2)
theorem wp_map_drop (hg : o.guard = none) (m x : Operand) (hop : o.op = Op.call { callee := Callee.builtin Builtin.delete, args := #[m, x], argTypes := #[79, 2] }) (b n : Nat) (f : Int → Option (Int × ByteArray)) (h : HasMap w b n f) (k : Int)
    (hm : a.eval m = .map (some b)) (hx : a.eval x = .int .i64 k) (hk : (Lit.int .i64 k).wf = true)
    (hK : ∀ w', HasMap w' b n (fun z => if k = z then none else f z) → w.grownBy w' (some b) → wpList Tryz.prog ops Q rest (a.put o.dst (.tuple #[])) w') : wpList Tryz.prog ops Q (o :: rest) a w := by
  refine wpList_plain hg fun K' hK' => ?_
  obtain ⟨w', hrun, r1, r2⟩ := map_drop h hk o.type
  unfold Oper.wp
  simp [execOp, hop, resolve, invoke, builtin, hm, hx, hrun, Result.andThen]
  exact hK' _ _ (hK w' r1 r2)
end
end Go.Proofs.YtkigmpeanllimaaGreatDoor.Disk

/- What the CRC functions of the program and of the model answer, by contracts. -/
namespace Go.Proofs.YtkigmpeanllimaaGreatDoor.Crc
open Go.RowKit

theorem ret_int {k : IntKind} {a b : Int} (h : a = b) : Ending.returned (.int k a) = .returned (.int k b) := by rw [h]
theorem val_int {k : IntKind} {a b : Int} (h : a = b) : Value.int k a = .int k b := by rw [h]
theorem at_lt (s : ByteArray) (k : Nat) (h : k < s.size) : s[k]?.getD 0 = s[k] := by simp [h]

set_option maxHeartbeats 400000 in
theorem crcByte_any (r : Nat) (c : UInt8) (w : World) (hr : r < 4294967296) :
    Calls Tryz.prog 94 #[.int .u32 r, .int .u8 c.toNat] w fun e w' => e = .returned (.int .u32 (byteS r c.toNat : Nat)) ∧ w' = w := by
  have hc := byte_lt c
  have hm : ((c.toNat : Nat) : Int) % 4294967296 = c.toNat := by omega
  have hx0 : bits .xor .u32 (r : Int) (c.toNat : Int) = ((r ^^^ c.toNat : Nat) : Int) := xor32 hr (by omega)
  have h0 : r ^^^ c.toNat < 4294967296 := xor_lt hr (by omega)
  go_enter Tryz.func94, Tryz.ntmps94
  go_wp2
  go_loop [0, 5] (fun r' i => ∃ (k : Nat), k ≤ 8 ∧ i = .int .i64 k ∧ r' = .int .u32 (itS k (r ^^^ c.toNat) : Nat)) (fun _ i => 8 - (intOf i).toNat)
  case atStart => exact ⟨0, by omega, rfl, rfl⟩
  case round =>
    obtain ⟨k, hk, rfl, rfl⟩ := hrel
    have hx := itS_lt h0 k
    have hs : itS (k + 1) (r ^^^ c.toNat) = bitS (itS k (r ^^^ c.toNat)) := rfl
    have HS : Hid (itS (k + 1) (r ^^^ c.toNat) = bitS (itS k (r ^^^ c.toNat))) := hs
    have HE : Hid (byteS r c.toNat = itS 8 (r ^^^ c.toNat)) := rfl
    clear hs hx0 hm hc
    generalize hg : itS k (r ^^^ c.toNat) = x at *
    have HG : Hid (itS k (r ^^^ c.toNat) = x) := hg
    clear hg
    by_cases hlt : k < 8
    · by_cases e : x % 2 = 1
      · have ht := test_yes hx e
        have he := bit_yes hx e
        go_wp2
        go_round
        case rel => exact ⟨k + 1, by omega, by go_num, val_int (by rw [HS.out])⟩
        case measure => simp [intOf]; omega
      · have ht := test_no hx e
        go_wp2
        go_round
        case rel => exact ⟨k + 1, by omega, by go_num, val_int (by rw [HS.out]; exact bit_no e)⟩
        case measure => simp [intOf]; omega
    · go_wp2
      go_ret
      have e8 : k = 8 := by omega
      subst e8
      exact ⟨ret_int (by rw [HE.out, HG.out]), rfl⟩

theorem max32 : IntKind.u32.max = 4294967295 := by simp [IntKind.max, IntKind.bits, IntKind.signed]

set_option maxHeartbeats 400000 in
theorem crcMore_in (r : Nat) (s : ByteArray) (w : World) (hr : r < 4294967296) (hs : s.size ≤ 8000) :
    Calls Tryz.prog 92 #[.int .i64 r, .string s] w fun e w' => e = .returned (.int .i64 (crcOf r s : Nat)) ∧ w' = w := by
  have hm := max32
  have hx0 : bits .xor .u32 4294967295 (r : Int) = ((r ^^^ 4294967295 : Nat) : Int) := xorM' hr
  have h0 : r ^^^ 4294967295 < 4294967296 := xor_lt hr (by omega)
  have HE : Hid (crcOf r s = crcTo s (r ^^^ 4294967295) s.size ^^^ 4294967295) := rfl
  generalize r ^^^ 4294967295 = q at *
  go_enter Tryz.func92, Tryz.ntmps92
  go_wp2
  go_loop [5, 6] (fun r' i => ∃ (k : Nat), k ≤ s.size ∧ i = .int .i64 k ∧ r' = .int .u32 (crcTo s q k : Nat)) (fun _ i => s.size - (intOf i).toNat)
  case atStart => exact ⟨0, by omega, rfl, rfl⟩
  case round =>
    obtain ⟨k, hk, rfl, rfl⟩ := hrel
    have hx := crcTo_lt s h0 k
    clear hx0
    by_cases hlt : k < s.size
    · have HS : Hid (crcTo s q (k + 1) = byteS (crcTo s q k) s[k].toNat) := by rw [← at_lt s k hlt]; rfl
      go_wp2_with (go_at_call 94; refine (crcByte_any _ _ _ hx).mono ?_; rintro e w' ⟨rfl, rfl⟩)
      go_round
      case rel => exact ⟨k + 1, by omega, by go_num, val_int (by rw [HS.out])⟩
      case measure => simp [intOf]; omega
    · have e : k = s.size := by omega
      subst e
      have hx1 : bits .xor .u32 4294967295 (crcTo s q s.size : Int) = ((crcTo s q s.size ^^^ 4294967295 : Nat) : Int) := xorM' hx
      have hx2 : crcTo s q s.size ^^^ 4294967295 < 4294967296 := xor_lt hx (by omega)
      go_wp2
      go_ret
      exact ⟨ret_int (by rw [HE.out]), rfl⟩

set_option maxHeartbeats 400000 in
theorem l01Crc_in (r : Nat) (s : ByteArray) (w : World) (hr : r < 4294967296) (hs : s.size ≤ 8000) :
    Calls Tryz.prog 83 #[.int .i64 r, .string s] w fun e w' => e = .returned (.int .i64 (crcOf r s : Nat)) ∧ w' = w := by
  have hx0 : bits .xor .u32 (r : Int) 4294967295 = ((r ^^^ 4294967295 : Nat) : Int) := xorM hr
  have h0 : r ^^^ 4294967295 < 4294967296 := xor_lt hr (by omega)
  have HE : Hid (crcOf r s = crcTo s (r ^^^ 4294967295) s.size ^^^ 4294967295) := rfl
  generalize r ^^^ 4294967295 = q at *
  go_enter Tryz.func83, Tryz.ntmps83
  go_wp2
  go_loop [5, 6] (fun r' i => ∃ (k : Nat), k ≤ s.size ∧ i = .int .i64 k ∧ r' = .int .u32 (crcTo s q k : Nat)) (fun _ i => s.size - (intOf i).toNat)
  case atStart => exact ⟨0, by omega, rfl, rfl⟩
  case round =>
    obtain ⟨k, hk, rfl, rfl⟩ := hrel
    have hx := crcTo_lt s h0 k
    clear hx0
    by_cases hlt : k < s.size
    · have HS : Hid (crcTo s q (k + 1) = byteS (crcTo s q k) s[k].toNat) := by rw [← at_lt s k hlt]; rfl
      have hc := byte_lt s[k]
      have hm : ((s[k].toNat : Nat) : Int) % 4294967296 = s[k].toNat := by omega
      have hx1 : bits .xor .u32 (crcTo s q k : Int) (s[k].toNat : Int) = ((crcTo s q k ^^^ s[k].toNat : Nat) : Int) := xor32 hx (by omega)
      have hy : crcTo s q k ^^^ s[k].toNat < 4294967296 := xor_lt hx (by omega)
      have HB : Hid (byteS (crcTo s q k) s[k].toNat = itS 8 (crcTo s q k ^^^ s[k].toNat)) := rfl
      go_wp2
      go_loop [5, 7] (fun r' i => ∃ (j : Nat), j ≤ 8 ∧ i = .int .i64 j ∧ r' = .int .u32 (itS j (crcTo s q k ^^^ s[k].toNat) : Nat)) (fun _ i => 8 - (intOf i).toNat)
      case atStart => exact ⟨0, by omega, rfl, rfl⟩
      case round =>
        obtain ⟨j, hj, rfl, rfl⟩ := hrel
        have hz := itS_lt hy j
        have HT : Hid (itS (j + 1) (crcTo s q k ^^^ s[k].toNat) = bitS (itS j (crcTo s q k ^^^ s[k].toNat))) := rfl
        clear hx1 hm hc
        generalize hg : itS j (crcTo s q k ^^^ s[k].toNat) = x at *
        have HG : Hid (itS j (crcTo s q k ^^^ s[k].toNat) = x) := hg
        clear hg
        by_cases hlj : j < 8
        · by_cases e : x % 2 = 1
          · have ht := test_yes hz e
            have he := bit_yes hz e
            go_wp2
            go_round
            case rel => exact ⟨j + 1, by omega, by go_num, val_int (by rw [HT.out])⟩
            case measure => simp [intOf]; omega
          · have ht := test_no hz e
            go_wp2
            go_round
            case rel => exact ⟨j + 1, by omega, by go_num, val_int (by rw [HT.out]; exact bit_no e)⟩
            case measure => simp [intOf]; omega
        · have e8 : j = 8 := by omega
          subst e8
          go_wp2
          go_round
          case rel => exact ⟨k + 1, by omega, by go_num, val_int (by rw [HS.out, HB.out, HG.out])⟩
          case measure => simp [intOf]; omega
    · have e : k = s.size := by omega
      subst e
      have hx1 : bits .xor .u32 (crcTo s q s.size : Int) 4294967295 = ((crcTo s q s.size ^^^ 4294967295 : Nat) : Int) := xorM hx
      have hx2 : crcTo s q s.size ^^^ 4294967295 < 4294967296 := xor_lt hx (by omega)
      go_wp2
      go_ret
      exact ⟨ret_int (by rw [HE.out]), rfl⟩
end Go.Proofs.YtkigmpeanllimaaGreatDoor.Crc

/- What the two functions answer that lay a sum down in four bytes. -/
namespace Go.Proofs.YtkigmpeanllimaaGreatDoor.Four
open Go.RowKit Go.Proofs.YtkigmpeanllimaaGreatDoor.Mem

/-- The four bytes of a number, the lowest first. -/
def fourB (n : Nat) : ByteArray := ⟨#[UInt8.ofNat n, UInt8.ofNat (n / 256), UInt8.ofNat (n / 65536), UInt8.ofNat (n / 16777216)]⟩

theorem size_fourB (n : Nat) : (fourB n).size = 4 := rfl

theorem ofNat_mod (n : Nat) : UInt8.ofNat (n % 256) = UInt8.ofNat n := by
  apply UInt8.toNat.inj; simp

theorem text4 (w : World) (x0 x1 x2 x3 : Int) (T : TypeId) :
    (convert 22 9 (.slice (some ⟨w.heap.size, 0, none⟩) 4 4)).run Tryz.prog (w.alloc (.cells #[.int .u8 x0, .int .u8 x1, .int .u8 x2, .int .u8 x3] T)) =
      .ok (.string ⟨#[UInt8.ofNat x0.toNat, UInt8.ofNat x1.toNat, UInt8.ofNat x2.toNat, UInt8.ofNat x3.toNat]⟩) (w.alloc (.cells #[.int .u8 x0, .int .u8 x1, .int .u8 x2, .int .u8 x3] T)) := by
  rw [run_convert_bytes_string _ _ _ _ _ _ _ Join.under Join.under8 Join.underS]
  have hl := run_loadCells_list (P := Tryz.prog) (w.alloc (.cells #[.int .u8 x0, .int .u8 x1, .int .u8 x2, .int .u8 x3] T)) ⟨w.heap.size, 0, none⟩ ([x0, x1, x2, x3].map (Value.int .u8)) (fun j v hj => by
    have ha : (⟨w.heap.size, 0, none⟩ : Addr).add j = ⟨w.heap.size, j, none⟩ := by unfold Addr.add; split <;> simp_all
    rw [ha, World.cell?_alloc_mark, ← hj]
    simp)
  rw [run_bytesToString _ _ 4 4 [x0, x1, x2, x3] hl]
  rfl

theorem four_eq (n : Nat) : (⟨#[UInt8.ofNat (n % 256), UInt8.ofNat (n / 256 % 256), UInt8.ofNat (n / 65536 % 256), UInt8.ofNat (n / 16777216)]⟩ : ByteArray) = fourB n := by
  rw [ofNat_mod, ofNat_mod, ofNat_mod]; rfl

theorem ret_str {a b : ByteArray} (h : a = b) : Ending.returned (.string a) = .returned (.string b) := by rw [h]

set_option maxHeartbeats 400000 in
theorem l01Four_any (n : Nat) (w : World) (hn : n < 4294967296) :
    Calls Tryz.prog 82 #[.int .i64 n] w fun e w' => e = .returned (.string (fourB n)) ∧ Below w.heap.size w w' := by
  have ht := text4
  go_enter Tryz.func82, Tryz.ntmps82
  go_wp2
  go_ret
  exact ⟨ret_str (four_eq n), (Below.refl _ _).alloc (Nat.le_refl _) _⟩

set_option maxHeartbeats 400000 in
theorem sumText_any (n : Nat) (w : World) (hn : n < 4294967296) :
    Calls Tryz.prog 86 #[.int .i64 n] w fun e w' => e = .returned (.string (fourB n)) ∧ Below w.heap.size w w' := by
  have ht := text4
  go_enter Tryz.func86, Tryz.ntmps86
  go_wp2
  refine wp_loop_rounds 5 ?_
  iterate 5 (rw [rounds_succ]; go_wp2)
  go_ret
  exact ⟨ret_str (four_eq n), (Below.refl _ _).alloc (Nat.le_refl _) _⟩
end Go.Proofs.YtkigmpeanllimaaGreatDoor.Four

/- What the two Seal functions answer, by contracts. -/
namespace Go.Proofs.YtkigmpeanllimaaGreatDoor.Seal
open Go.RowKit Go.Proofs.YtkigmpeanllimaaGreatDoor.Mem Go.Proofs.YtkigmpeanllimaaGreatDoor.Four Go.Proofs.YtkigmpeanllimaaGreatDoor.Crc

/-- The seal of a text of at most 7996 bytes. -/
def sealB (s : ByteArray) : ByteArray := s ++ fourB (crcOf 0 s)

theorem size_sealB (s : ByteArray) : (sealB s).size = s.size + 4 := by simp [sealB, ByteArray.size_append, size_fourB]

set_option maxHeartbeats 400000 in
theorem specSeal_in (s : ByteArray) (w : World) (hs : s.size ≤ 7996) :
    Calls Tryz.prog 69 #[.string s] w fun e w' => e = .returned (.string (sealB s)) ∧ Below w.heap.size w w' := by
  have K1 : Hid (∀ w, Calls Tryz.prog 83 #[.int .i64 0, .string s] w fun e w' => e = .returned (.int .i64 (crcOf 0 s : Nat)) ∧ w' = w) := fun w => l01Crc_in 0 s w (by omega) (by omega)
  have hc := crcOf_lt (x := 0) (by omega) s
  have hz : (fourB (crcOf 0 s)).size ≤ 4 := Nat.le_of_eq (size_fourB _)
  go_enter Tryz.func69, Tryz.ntmps69
  go_wp2_with (first | (go_at_call 83; refine (K1.out _).mono ?_; rintro e w' ⟨rfl, rfl⟩) | (go_at_call 82; refine (l01Four_any _ _ hc).mono ?_; rintro e w' ⟨rfl, hb⟩))
  go_ret
  exact ⟨rfl, hb⟩

set_option maxHeartbeats 400000 in
theorem implSeal_in (s : ByteArray) (w : World) (hs : s.size ≤ 7996) :
    Calls Tryz.prog 78 #[.string s] w fun e w' => e = .returned (.string (sealB s)) ∧ Below w.heap.size w w' := by
  have K1 : Hid (∀ w, Calls Tryz.prog 92 #[.int .i64 0, .string s] w fun e w' => e = .returned (.int .i64 (crcOf 0 s : Nat)) ∧ w' = w) := fun w => crcMore_in 0 s w (by omega) (by omega)
  have hc := crcOf_lt (x := 0) (by omega) s
  have hz := size_fourB (crcOf 0 s)
  have hj : (fourB (crcOf 0 s)).size ≤ 10000000 := by omega
  have hs2 : s.size ≤ 10000000 := by omega
  clear hz
  go_enter Tryz.func78, Tryz.ntmps78
  go_wp2_with (first | (go_at_call 92; refine (K1.out _).mono ?_; rintro e w' ⟨rfl, rfl⟩) | (go_at_call 86; refine (sumText_any _ _ hc).mono ?_; rintro e w' ⟨rfl, hb⟩) | (go_at_call 60; refine (Join.join_any _ _ _ hs2 hj).mono ?_; rintro e w2 ⟨rfl, hb2⟩) | go_in)
  go_ret
  exact ⟨rfl, hb.trans (hb2.mono hb.size)⟩

theorem specSeal_out (s : ByteArray) (w : World) (hs : ¬ s.size ≤ 7996) :
    Calls Tryz.prog 69 #[.string s] w fun e w' => e = .returned (.string ByteArray.empty) ∧ w' = w := by
  go_enter Tryz.func69, Tryz.ntmps69
  go_wp2
  go_ret
  exact ⟨rfl, rfl⟩

theorem implSeal_out (s : ByteArray) (w : World) (hs : ¬ s.size ≤ 7996) :
    Calls Tryz.prog 78 #[.string s] w fun e w' => e = .returned (.string ByteArray.empty) ∧ w' = w := by
  go_enter Tryz.func78, Tryz.ntmps78
  go_wp2
  go_ret
  exact ⟨rfl, rfl⟩
end Go.Proofs.YtkigmpeanllimaaGreatDoor.Seal

/- When a seal is right. -/
namespace Go.Proofs.YtkigmpeanllimaaGreatDoor.Unseal
open Go.RowKit Go.Proofs.YtkigmpeanllimaaGreatDoor.Mem Go.Proofs.YtkigmpeanllimaaGreatDoor.Four Go.Proofs.YtkigmpeanllimaaGreatDoor.Crc Go.Proofs.YtkigmpeanllimaaGreatDoor.Seal

/-- Do the last four bytes hold the sum of those ahead of them? -/
def okSeal (s : ByteArray) : Bool := (fourB (crcOf 0 (s.extract 0 (s.size - 4)))).toList == (s.extract (s.size - 4) s.size).toList

theorem bcell {W w1 : World} (hb : Below W.heap.size W w1) : (∀ b o, b < W.heap.size → w1.cell? ⟨b, o, none⟩ = W.cell? ⟨b, o, none⟩) ∧ (∀ b o, b < W.heap.size → w1.frozen? ⟨b, o, none⟩ = W.frozen? ⟨b, o, none⟩) :=
  ⟨fun b o h => hb.cell (p := ⟨b, o, none⟩) h, fun b o h => hb.frozen (p := ⟨b, o, none⟩) h⟩

theorem list_eq (s : ByteArray) : s.toList = s.data.toList := ByteArray.toList_eq s

theorem seal_same (s : ByteArray) : ((sealB (s.extract 0 (s.size - 4))).toList == s.toList) = okSeal s := by
  unfold okSeal sealB
  have hs : s.data.toList = (s.extract 0 (s.size - 4)).data.toList ++ (s.extract (s.size - 4) s.size).data.toList := by
    rw [Lib.extract_data, Lib.extract_data]
    simp only [List.drop_zero, Nat.sub_zero]
    rw [List.take_of_length_le (l := List.drop (s.size - 4) s.data.toList) (by simp), List.take_append_drop]
  have ha : (s.extract 0 (s.size - 4) ++ fourB (crcOf 0 (s.extract 0 (s.size - 4)))).data.toList = (s.extract 0 (s.size - 4)).data.toList ++ (fourB (crcOf 0 (s.extract 0 (s.size - 4)))).data.toList := by simp
  rw [list_eq, list_eq, list_eq, list_eq, ha, Bool.eq_iff_iff, beq_iff_eq, beq_iff_eq]
  constructor
  · intro h
    rw [h] at ha
    rw [hs] at h
    exact List.append_cancel_left h
  · intro h
    rw [h, ← hs]

/-- What comes of a text of a right length. -/
def unsealV (s : ByteArray) : Value := if okSeal s = true then .agg #[.string (s.extract 0 (s.size - 4)), .int .i64 0, .int .i64 0] else .agg #[.string ByteArray.empty, .int .i64 0, .int .i64 5]

theorem empty_app (t : ByteArray) : (⟨#[]⟩ : ByteArray) ++ t = t := by
  apply ByteArray.ext; simp

end Go.Proofs.YtkigmpeanllimaaGreatDoor.Unseal

/- A seal is right; with one byte turned it is not. -/
namespace Go.Proofs.YtkigmpeanllimaaGreatDoor.Unseal
open Go.RowKit Go.Proofs.YtkigmpeanllimaaGreatDoor.Four Go.Proofs.YtkigmpeanllimaaGreatDoor.Crc Go.Proofs.YtkigmpeanllimaaGreatDoor.Seal

theorem ba_ext {a b : ByteArray} (h : a.data.toList = b.data.toList) : a = b := by
  apply ByteArray.ext; exact Array.ext' h

theorem seal_size (t : ByteArray) : (sealB t).size = t.size + 4 := size_sealB t

theorem seal_data (t : ByteArray) : (sealB t).data.toList = t.data.toList ++ (fourB (crcOf 0 t)).data.toList := data_app _ _

theorem inner_seal (t : ByteArray) : (sealB t).extract 0 ((sealB t).size - 4) = t := by
  apply ba_ext
  rw [Lib.extract_data, seal_size, seal_data]
  simp

theorem tail_seal (t : ByteArray) : (sealB t).extract ((sealB t).size - 4) (sealB t).size = fourB (crcOf 0 t) := by
  apply ba_ext
  have hl : (fourB (crcOf 0 t)).data.toList.length = 4 := size_fourB _
  rw [Lib.extract_data, seal_size, seal_data, Nat.add_sub_cancel]
  rw [show t.size = t.data.toList.length from rfl, List.drop_left, List.take_of_length_le (by omega)]

theorem seal_ok (t : ByteArray) : okSeal (sealB t) = true := by
  unfold okSeal
  rw [inner_seal, tail_seal]
  simp

theorem unsealV_ok (t : ByteArray) : unsealV (sealB t) = .agg #[.string t, .int .i64 0, .int .i64 0] := by
  unfold unsealV
  rw [if_pos (seal_ok t), inner_seal]

/-- A text with one byte turned. -/
def turn (s : ByteArray) (j : Nat) (b : UInt8) : ByteArray := ⟨(s.data.toList.set j b).toArray⟩

theorem size_turn (s : ByteArray) (j : Nat) (b : UInt8) : (turn s j b).size = s.size := by
  show (s.data.toList.set j b).toArray.size = _
  simp

theorem data_turn (s : ByteArray) (j : Nat) (b : UInt8) : (turn s j b).data.toList = s.data.toList.set j b := rfl

theorem four_inj {m n : Nat} (hm : m < 4294967296) (hn : n < 4294967296) (h : fourB m = fourB n) : m = n := by
  have hl := congrArg (fun s : ByteArray => s.data.toList) h
  simp only [fourB, List.cons.injEq] at hl
  obtain ⟨h0, h1, h2, h3, _⟩ := hl
  have e0 := congrArg UInt8.toNat h0
  have e1 := congrArg UInt8.toNat h1
  have e2 := congrArg UInt8.toNat h2
  have e3 := congrArg UInt8.toNat h3
  simp at e0 e1 e2 e3
  omega

theorem seal_turned (t : ByteArray) (j : Nat) (b : UInt8) (hj : j < t.size + 4) (hne : b ≠ (sealB t)[j]?.getD 0) : okSeal (turn (sealB t) j b) = false := by
  have hz : (turn (sealB t) j b).size = t.size + 4 := by rw [size_turn, seal_size]
  have hl4 : (fourB (crcOf 0 t)).data.toList.length = 4 := size_fourB _
  have hlt : t.data.toList.length = t.size := rfl
  unfold okSeal
  rw [hz, Nat.add_sub_cancel, list_eq, list_eq, Lib.extract_data, data_turn, seal_data, beq_eq_false_iff_ne]
  have hbyte : (sealB t)[j]?.getD 0 = (t.data.toList ++ (fourB (crcOf 0 t)).data.toList)[j]?.getD 0 := by rw [at_list, seal_data]
  rw [hbyte] at hne
  by_cases hjt : j < t.size
  · -- a byte of the text
    have e1 : (t.data.toList ++ (fourB (crcOf 0 t)).data.toList).set j b = t.data.toList.set j b ++ (fourB (crcOf 0 t)).data.toList := List.set_append_left _ _ (by omega)
    have e2 : (turn (sealB t) j b).extract 0 t.size = turn t j b := by
      apply ba_ext
      rw [Lib.extract_data, data_turn, data_turn, seal_data, e1]
      simp
    rw [e2, e1, show t.size = (t.data.toList.set j b).length by simp, List.drop_left, List.take_of_length_le (by omega)]
    intro h
    have hd : crcOf 0 (turn t j b) = crcOf 0 t := four_inj (crcOf_lt (by omega) _) (crcOf_lt (by omega) _) (ba_ext h)
    refine crcOf_diff (size_turn t j b) hjt ?_ ?_ hd
    · rw [at_list, at_list, data_turn]
      rw [List.getElem?_append_left (by omega)] at hne
      simpa [hlt, hjt] using hne
    · intro i hi
      rw [at_list, at_list, data_turn, List.getElem?_set_ne (fun e => hi e.symm)]
  · -- a byte of the sum
    have e1 : (t.data.toList ++ (fourB (crcOf 0 t)).data.toList).set j b = t.data.toList ++ (fourB (crcOf 0 t)).data.toList.set (j - t.size) b := by
      rw [List.set_append_right _ _ (by omega), hlt]
    have e2 : (turn (sealB t) j b).extract 0 t.size = t := by
      apply ba_ext
      rw [Lib.extract_data, data_turn, seal_data, e1]
      simp
    rw [e2, e1, show t.size = t.data.toList.length from rfl, List.drop_left, List.take_of_length_le (by simp [hl4])]
    intro h
    rw [List.getElem?_append_right (by omega), hlt] at hne
    have hx := congrArg (fun l : List UInt8 => l[j - t.size]?.getD 0) h
    rw [show t.data.toList.length = t.size from rfl] at hx
    have hin : j - t.size < (fourB (crcOf 0 t)).data.toList.length := by omega
    rw [List.getElem?_set_self hin] at hx
    exact hne (by simpa using hx.symm)
end Go.Proofs.YtkigmpeanllimaaGreatDoor.Unseal

/- What the two PutNum functions answer, by contracts. -/
namespace Go.Proofs.YtkigmpeanllimaaGreatDoor.PutNum
open Go.RowKit Go.Proofs.YtkigmpeanllimaaGreatDoor.Mem

theorem ret_int {k : IntKind} {a b : Int} (h : a = b) : Ending.returned (.int k a) = .returned (.int k b) := by rw [h]
theorem val_int {k : IntKind} {a b : Int} (h : a = b) : Value.int k a = .int k b := by rw [h]
theorem ret_str {a b : ByteArray} (h : a = b) : Ending.returned (.string a) = .returned (.string b) := by rw [h]

/-- The bytes of a number, as a text. -/
def numB (n : Int) : ByteArray := ⟨(numL n).toArray⟩

theorem l01Fold_any (n : Int) (w : World) (h1 : -9223372036854775808 ≤ n) (h2 : n ≤ 9223372036854775807) :
    Calls Tryz.prog 84 #[.int .i64 n] w fun e w' => e = .returned (.int .u64 (foldN n)) ∧ w = w' := by
  by_cases h : n < 0
  · go_enter Tryz.func84, Tryz.ntmps84
    go_wp2
    go_ret
    exact ⟨ret_int (fold_neg h).symm, rfl⟩
  · go_enter Tryz.func84, Tryz.ntmps84
    go_wp2
    go_ret
    exact ⟨ret_int (fold_pos (by omega)).symm, rfl⟩

theorem fold_any (n : Int) (w : World) (h1 : -9223372036854775808 ≤ n) (h2 : n ≤ 9223372036854775807) :
    Calls Tryz.prog 88 #[.int .i64 n] w fun e w' => e = .returned (.int .u64 (foldN n)) ∧ w = w' := by
  by_cases h : n < 0
  · have HB : Hid (bits .xor .u64 IntKind.u64.max (IntKind.u64.wrap (IntKind.u64.wrap n * 2)) = (foldN n : Int)) := fold_bits h1 h
    go_enter Tryz.func88, Tryz.ntmps88
    go_wp2
    go_ret
    exact ⟨ret_int HB.out, rfl⟩
  · go_enter Tryz.func88, Tryz.ntmps88
    go_wp2
    go_ret
    exact ⟨ret_int (by rw [fold_pos (by omega)]; omega), rfl⟩

theorem rel_spec {w wr : World} {n : Int} {f x : Nat} {l : List UInt8} (hi : Inv (foldN n) f x l) (hx : x < 128) {v' : Value} {v : Value} {w1 : World} {o : Obj} (hown : OwnsB wr w.heap.size 5 v l) (hbel : Below w.heap.size w wr)
    (h1 : w1.ownsRow w.heap.size 5 1 v' (l.length + 1) (Lib.byteCells l ++ [.int .u8 (x : Int)])) (hg : (wr.alloc o).grownBy w1 v.ownBlock) :
    (convert 22 9 v').run Tryz.prog w1 = .ok (.string (numB n)) w1 ∧ Below w.heap.size w w1 := by
  obtain ⟨a, b⟩ := own_step hown hbel hbel.size (toNat_last hx).symm h1 hg
  have e := inv_end hi hx
  refine ⟨?_, b⟩
  rw [own_text _ _ _ Join.under Join.under8 Join.underS (by simp) a, e]
  rfl

set_option maxRecDepth 100000 in
set_option maxHeartbeats 1000000 in
theorem specPutNum_any (n : Int) (w : World) (h1 : -9223372036854775808 ≤ n) (h2 : n ≤ 9223372036854775807) :
    Calls Tryz.prog 70 #[.int .i64 n] w fun e w' => e = .returned (.string (numB n)) ∧ Below w.heap.size w w' := by
  have hf := foldN_lt n h1 h2
  have HI : Hid (Inv (foldN n) 9 (foldN n) []) := inv_start hf
  have hf' : (foldN n : Int) ≤ 18446744073709551615 := by omega
  clear hf
  obtain ⟨i0, hi, hz0, hz1, hz2⟩ := info_parts Join.info8
  have HF : Hid (∀ w, Calls Tryz.prog 84 #[.int .i64 n] w fun e w' => e = .returned (.int .u64 (foldN n)) ∧ w = w') := fun w => l01Fold_any n w h1 h2
  clear h1 h2
  go_enter Tryz.func70, Tryz.ntmps70
  go_wp2_with (first | (go_at_call 84; refine (HF.out _).mono ?_; rintro e w' ⟨rfl, rfl⟩) )
  go_loopw [3, 4] (fun u b wr => ∃ (f x : Nat) (l : List UInt8), u = .int .u64 x ∧ (x : Int) ≤ 18446744073709551615 ∧ Hid (Inv (foldN n) f x l) ∧ OwnsB wr w.heap.size 5 b l ∧ Below w.heap.size w wr) (fun u b wr => (intOf u).toNat)
  case atStart => exact ⟨9, foldN n, [], rfl, hf', HI, own_empty _ _ _ (Nat.le_refl _), (Below.refl _ _).alloc (Nat.le_refl _) _⟩
  case round =>
    obtain ⟨f, x, l, rfl, hx, HV, hown, hbel⟩ := hrel
    have hle := inv_le HV.out
    have hsz := hbel.size
    by_cases hlt : 128 ≤ x
    · go_wp2_with (at_builtin; refine wpList_append_own _ rfl _ _ 22 rfl w.heap.size 5 i0 (.int .u8 0) 1 1 Join.under hi hz0 hz1 hz2 rfl (by decide) _ _ _ rfl (World.ownsRow.alloc hown _) ⟨wr.heap.size, 0, none⟩ 1 1 [.int .u8 ((x : Int) % 128 + 128)] rfl rfl ?c1 ?c2 ?c3 ?c4 ?c5 ?_)
      case c1 =>
        intro j u hj
        match j, hj with
        | 0, hj => simp at hj; subst hj; simp [Addr.add]
      case c2 => intro u hu; simp at hu; subst hu; rfl
      case c3 => unfold maxLen; omega
      case c4 => omega
      case c5 => simp; omega
      · intro v' w1 hown' hgrow _
        have R := own_step hown hbel hbel.size (toNat_cont x).symm hown' hgrow
        obtain ⟨g, rfl, HV'⟩ := inv_step HV.out hlt
        have HV2 : Hid (Inv (foldN n) g (x / 128) (l ++ [UInt8.ofNat (x % 128 + 128)])) := HV'
        clear hown' hgrow hown HV' HV
        go_wp2
        go_roundw
        case rel => exact ⟨g, x / 128, _, by go_num, by omega, HV2, R.1, R.2⟩
        case measure => simp [intOf]; omega
    · have hx2 : x < 128 := by omega
      go_wp2_with (at_builtin; refine wpList_append_own _ rfl _ _ 22 rfl w.heap.size 5 i0 (.int .u8 0) 1 1 Join.under hi hz0 hz1 hz2 rfl (by decide) _ _ _ rfl (World.ownsRow.alloc hown _) ⟨wr.heap.size, 0, none⟩ 1 1 [.int .u8 (x : Int)] rfl rfl ?c1 ?c2 ?c3 ?c4 ?c5 ?_)
      case c1 =>
        intro j u hj
        match j, hj with
        | 0, hj => simp at hj; subst hj; simp [Addr.add]
      case c2 => intro u hu; simp at hu; subst hu; rfl
      case c3 => unfold maxLen; omega
      case c4 => omega
      case c5 => simp; omega
      · intro v' w1 hown' hgrow _
        obtain ⟨hcv, hB1⟩ := rel_spec HV.out hx2 hown hbel hown' hgrow
        clear hown' hgrow hown HV
        go_wp2
        go_ret
        exact ⟨rfl, hB1⟩

/-- The program's ten bytes: those of l, and zeros behind them. -/
def TenRow (W : World) (g : Nat) (l : List UInt8) : Prop := HasRow W g (Lib.byteCells l ++ List.replicate (10 - l.length) (.int .u8 0)) 131

theorem ten_start (w : World) : TenRow (w.alloc (.cells #[.int .u8 0, .int .u8 0, .int .u8 0, .int .u8 0, .int .u8 0, .int .u8 0, .int .u8 0, .int .u8 0, .int .u8 0, .int .u8 0] 131)) w.heap.size [] := by
  unfold TenRow HasRow
  show (w.heap.push _)[w.heap.size]? = _
  simp [Lib.byteCells, List.replicate]

theorem ten_cell {W : World} {g : Nat} {l : List UInt8} (h : TenRow W g l) (hl : l.length ≤ 9) : W.cell? ⟨g, l.length, none⟩ = some (.int .u8 0) ∧ W.frozen? ⟨g, l.length, none⟩ = false := by
  refine ⟨?_, Mem.frozen_of_row h _⟩
  rw [Mem.cell_of_row h, List.getElem?_append_right (by simp [Lib.byteCells])]
  have hd : 0 < 10 - l.length := by omega
  simp [Lib.byteCells, hd]

theorem ten_step {W : World} {g : Nat} {l : List UInt8} (h : TenRow W g l) (hl : l.length ≤ 9) {n : Int} {b : UInt8} (hn : n = (b.toNat : Int)) : TenRow (W.setCell ⟨g, l.length, none⟩ (.int .u8 n)) g (l ++ [b]) := by
  have := row_set h l.length (.int .u8 n)
  unfold TenRow
  subst hn
  have e : (Lib.byteCells l ++ List.replicate (10 - l.length) (Value.int .u8 0)).set l.length (.int .u8 (b.toNat : Int)) = Lib.byteCells (l ++ [b]) ++ List.replicate (10 - (l ++ [b]).length) (.int .u8 0) := by
    obtain ⟨m, hm⟩ : ∃ m, 10 - l.length = m + 1 := ⟨9 - l.length, by omega⟩
    have hm2 : 10 - (l ++ [b]).length = m := by simp; omega
    rw [hm, hm2, List.replicate_succ, List.set_append_right _ _ (by simp [Lib.byteCells])]
    simp [Lib.byteCells]
  rwa [e] at this

theorem ten_text {W : World} {g : Nat} {l : List UInt8} (h : TenRow W g l) (cap : Nat) : (convert 22 9 (.slice (some ⟨g, 0, none⟩) l.length cap)).run Tryz.prog W = .ok (.string ⟨l.toArray⟩) W :=
  text_of_row _ _ _ Join.under Join.under8 Join.underS W g cap l.length l _ rfl h

theorem mask127 (x : Nat) (h : (x : Int) ≤ 18446744073709551615) : bits .and .u64 (x : Int) 127 = (x : Int) % 128 := by
  have h1 := u64_and_nat x 127 (by omega) (by decide)
  have h2 : x &&& 127 = x % 128 := Nat.and_two_pow_sub_one_eq_mod x 7
  rw [h2] at h1
  simpa using h1

theorem ten_final {w wr : World} {n : Int} {f x : Nat} {l : List UInt8} (hi : Inv (foldN n) f x l) (hx : x < 128) (h : TenRow wr w.heap.size l) : 
    (convert 22 9 (.slice (some ⟨w.heap.size, 0, none⟩) (l.length + 1) 10)).run Tryz.prog (wr.setCell ⟨w.heap.size, l.length, none⟩ (.int .u8 (x : Int))) = .ok (.string (numB n)) (wr.setCell ⟨w.heap.size, l.length, none⟩ (.int .u8 (x : Int))) := by
  have h2 := ten_step h (inv_le hi) (toNat_last hx).symm
  have h3 := ten_text h2 10
  rw [inv_end hi hx] at h3
  have h4 := congrArg List.length (inv_end hi hx)
  simp at h4
  rw [← h4] at h3
  exact h3

set_option maxRecDepth 100000 in
set_option maxHeartbeats 1000000 in
theorem implPutNum_any (n : Int) (w : World) (h1 : -9223372036854775808 ≤ n) (h2 : n ≤ 9223372036854775807) :
    Calls Tryz.prog 79 #[.int .i64 n] w fun e w' => e = .returned (.string (numB n)) ∧ Below w.heap.size w w' := by
  have hf := foldN_lt n h1 h2
  have HI : Hid (Inv (foldN n) 9 (foldN n) []) := inv_start hf
  have hf' : (foldN n : Int) ≤ 18446744073709551615 := by omega
  clear hf
  have HF : Hid (∀ w, Calls Tryz.prog 88 #[.int .i64 n] w fun e w' => e = .returned (.int .u64 (foldN n)) ∧ w = w') := fun w => fold_any n w h1 h2
  clear h1 h2
  have HT := ten_start w
  have HT2 : Hid _ := HT
  clear HT
  go_enter Tryz.func79, Tryz.ntmps79
  go_wp2_with (first | (go_at_call 88; refine (HF.out _).mono ?_; rintro e w' ⟨rfl, rfl⟩) )
  go_loopw [4, 5] (fun i u wr => ∃ (f x : Nat) (l : List UInt8), u = .int .u64 x ∧ i = .int .i64 (l.length : Nat) ∧ (x : Int) ≤ 18446744073709551615 ∧ Hid (Inv (foldN n) f x l) ∧ TenRow wr w.heap.size l ∧ Below w.heap.size w wr) (fun i u wr => (intOf u).toNat)
  case atStart => exact ⟨9, foldN n, [], rfl, rfl, hf', HI, HT2.out, (Below.refl _ _).alloc (Nat.le_refl _) _⟩
  case round =>
    obtain ⟨f, x, l, rfl, rfl, hx, HV, hrow, hbel⟩ := hrel
    have hle := inv_le HV.out
    obtain ⟨hcell, hfz⟩ := ten_cell hrow hle
    by_cases hlt : 128 ≤ x
    · have R := ten_step hrow hle (toNat_cont x).symm
      have hm := mask127 x hx
      obtain ⟨g, rfl, HV'⟩ := inv_step HV.out hlt
      have HV2 : Hid (Inv (foldN n) g (x / 128) (l ++ [UInt8.ofNat (x % 128 + 128)])) := HV'
      have HR : Hid (TenRow (wr.setCell ⟨w.heap.size, l.length, none⟩ (.int .u8 ((x : Int) % 128 + 128))) w.heap.size (l ++ [UInt8.ofNat (x % 128 + 128)])) := R
      clear R HV' HV hrow
      go_wp2
      go_roundw
      case rel => exact ⟨g, x / 128, _, by go_num, by simp, by omega, HV2, HR.out, hbel.setCell (Nat.le_refl _) _⟩
      case measure => simp [intOf]; omega
    · have hx2 : x < 128 := by omega
      have hcv := ten_final HV.out hx2 hrow
      have hle1 : (l.length : Int) + 1 ≤ 10 := by omega
      have hle0 : (0 : Int) ≤ (l.length : Int) + 1 := by omega
      clear HV hrow
      go_wp2
      go_ret
      exact ⟨rfl, hbel.setCell (Nat.le_refl _) _⟩
end Go.Proofs.YtkigmpeanllimaaGreatDoor.PutNum
