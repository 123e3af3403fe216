/- Laws that the proof rests on, put together: What the laws' markText answers. What the laws' own functions on lists of texts answer: sized, copied, compared, marked, held. What the laws' own functions on lists of pending writes answer. Lists of pending writes, sized, marked and held by the laws' own functions. A disk that came in, opened: its sectors and its pending writes. What the laws' own functions on disks answer. What the model's DiskRight answers. What the laws' own functions that weigh a disk answer. What the laws' own functions answer that weigh, mark and look at a disk. What the laws' own functions on lists of numbers (int64) answer: copied, compared, marked. 'append([]T{}, xs...)': a copy of a list of texts, of pending writes, in a block of its own. What the program's join answers: the two texts in one, in new memory. What the CRC functions of the program and of the model answer, by contracts. What the two functions answer that lay a sum down in four bytes. What the two Seal functions answer, by contracts. A disk of the call's own, within a range of blocks; the laws' functions on it. 'append(b, s...)' of a text to bytes of the call's own, and the text of these. What the laws' own functions on lists of files answer. Lists of files and trees, compared, copied, sized, marked and held by the laws' own functions. Trees, copied, compared, sized by the laws' own functions. -/
import Derived.Test.YtfpgobkedfhakabRows
import Derived.Test.YtfpgobkedfhakabTextsA
import Derived.BigRegion
import Derived.Deep.QuietTactic
import Derived.BigQuiet
import Derived.Deep.RegionWith
import Derived.ProofKit
import Derived.OpenShut
import Derived.SliceStrings
import Derived.Deep.SlicePairs
import Derived.Lib.SmallJoins
import Derived.ArgAppend
import Derived.Deep.Upon
import Derived.Deep.AppendLies
import Derived.Deep.RegionHeld3
import Derived.WalkKit
import Derived.Below
import Derived.Lib.AppendStr
/- What the laws' markText answers. -/
namespace Go.Proofs.Ytfpgobkedfhakab.Mark
open Go.RowKit Go.Proofs.Ytfpgobkedfhakab.Mem

theorem under : Try.prog.underlying 52 = some (.slice 5) := by kernel_rfl
theorem underS : Try.prog.underlying 9 = some .string := by kernel_rfl
theorem under8 : Try.prog.underlying 5 = some (.int .u8) := by kernel_rfl

theorem digit_text (W : World) (x : Nat) : (convert 52 9 (.slice (some ⟨W.heap.size, 0, none⟩) 1 1)).run Try.prog (W.alloc (.cells #[.int .u8 (48 + (x : Int) % 10)] 5)) = .ok (.string ⟨#[UInt8.ofNat (48 + x % 10)]⟩) (W.alloc (.cells #[.int .u8 (48 + (x : Int) % 10)] 5)) := by
  have h := text_of_row (P := Try.prog) 52 9 5 under under8 underS (W.alloc (.cells #[.int .u8 (48 + (x : Int) % 10)] 5)) W.heap.size 1 1 [UInt8.ofNat (48 + x % 10)] [] rfl (T := 5) (by
    show (W.heap.push _)[W.heap.size]? = _
    have e : (UInt8.ofNat (48 + x % 10)).toNat = 48 + x % 10 := by rw [UInt8.toNat_ofNat']; omega
    simp [Lib.byteCells]
    omega)
  exact h

theorem cons_text (c : UInt8) (acc : List UInt8) : (⟨#[c]⟩ : ByteArray) ++ (⟨acc.toArray⟩ : ByteArray) = ⟨(c :: acc).toArray⟩ := by
  apply ByteArray.ext
  simp

theorem digs_len : ∀ (n k : Nat) (acc : List UInt8), k < 10 ^ n → (digs k acc).length ≤ acc.length + n
  | 0, k, acc, h => by
    obtain rfl : k = 0 := by simpa using h
    rw [digs_zero]; omega
  | n + 1, k, acc, h => by
    by_cases hk : k = 0
    · subst hk; rw [digs_zero]; omega
    · rw [digs_pos (by omega)]
      have := digs_len n (k / 10) (UInt8.ofNat (48 + k % 10) :: acc) (by rw [Nat.pow_succ] at h; omega)
      rw [List.length_cons] at this
      omega
theorem acc_len : ∀ (n k : Nat) (acc : List UInt8), k ≤ n → acc.length ≤ (digs k acc).length
  | 0, k, acc, h => by
    obtain rfl : k = 0 := by omega
    rw [digs_zero]; omega
  | n + 1, k, acc, h => by
    by_cases hk : k = 0
    · subst hk; rw [digs_zero]; omega
    · rw [digs_pos (by omega)]
      have := acc_len n (k / 10) (UInt8.ofNat (48 + k % 10) :: acc) (by omega)
      rw [List.length_cons] at this
      omega

end Go.Proofs.Ytfpgobkedfhakab.Mark

/- What the laws' own functions on lists of texts answer: sized, copied, compared, marked, held. -/
namespace Go.Proofs.Ytfpgobkedfhakab.Harn
open Go.RowKit Go.Proofs.Ytfpgobkedfhakab.Mem Go.Proofs.Ytfpgobkedfhakab.Mark

/-- The slice v reads as the texts l. -/
def Strs (W : World) (v : Value) (l : List ByteArray) : Prop :=
  ∃ a cap, v = .slice a l.length cap ∧ ∀ j (h : j < l.length), ∃ b o, a = some ⟨b, o, none⟩ ∧ W.cell? ⟨b, o + j, none⟩ = some (.string l[j])

theorem Strs.below {W W' : World} {v : Value} {l : List ByteArray} (h : Strs W v l) (hb : Below W.heap.size W W') : Strs W' v l := by
  obtain ⟨a, cap, hv, hc⟩ := h
  refine ⟨a, cap, hv, fun j hj => ?_⟩
  obtain ⟨b, o, ha, hcell⟩ := hc j hj
  refine ⟨b, o, ha, ?_⟩
  rw [hb.cell (World.block_lt_of_cell? W _ hcell)]
  exact hcell
theorem Strs.drewN {W : World} {v : Value} {l : List ByteArray} (h : Strs W v l) (n : Nat) : Strs (W.drewN n) v l := h

theorem infoStr : (Try.prog.info? 9).map (fun i => (i.zero, i.size, i.bytes)) = some (some (.string ByteArray.empty), 1, 16) := by kernel_rfl
theorem underStrs : Try.prog.underlying 39 = some (.slice 9) := by kernel_rfl

theorem make_strs (n : Nat) (hn : n ≤ 2000000) (w : World) :
    ∃ W1, (Instr.makeSlice 39 (.int .i64 (n : Int)) (.int .i64 (n : Int))).run Try.prog w = .ok (.slice (some ⟨w.heap.size, 0, none⟩) n n) W1 ∧ HasRow W1 w.heap.size (List.replicate n (.string ByteArray.empty)) 9 ∧ Below w.heap.size w W1 ∧ W1.heap.size = w.heap.size + 1 := by
  refine ⟨_, run_make_row' (P := Try.prog) 39 9 (.string ByteArray.empty) 16 underStrs infoStr rfl .i64 .i64 n (by omega) (by omega) w, ?_, (Below.refl _ _).alloc (Nat.le_refl _) _, by simp⟩
  unfold HasRow
  rw [← toList_madeCells_one]
  show (w.heap.push _)[w.heap.size]? = _
  simp

/-- A list of texts of which the first k are laid. -/
def copyTo (l : List ByteArray) (k : Nat) : List Value := (l.take k).map Value.string ++ List.replicate (l.length - k) (.string ByteArray.empty)
theorem copyTo_start (l : List ByteArray) : copyTo l 0 = List.replicate l.length (.string ByteArray.empty) := by simp [copyTo]
theorem copyTo_end (l : List ByteArray) : copyTo l l.length = l.map Value.string := by simp [copyTo]
theorem copyTo_cell (l : List ByteArray) (k : Nat) (hk : k < l.length) : (copyTo l k)[k]? = some (.string ByteArray.empty) := by
  have hl : ((l.take k).map Value.string).length = k := by simp; omega
  unfold copyTo
  rw [List.getElem?_append_right (by omega), hl, Nat.sub_self, List.getElem?_replicate, if_pos (by omega)]
theorem copyTo_set (l : List ByteArray) (k : Nat) (hk : k < l.length) : (copyTo l k).set k (.string l[k]) = copyTo l (k + 1) := by
  have hl : ((l.take k).map Value.string).length = k := by simp; omega
  unfold copyTo
  rw [List.set_append_right _ _ (by omega), hl, Nat.sub_self, show l.length - k = (l.length - (k + 1)) + 1 by omega, List.replicate_succ, List.set_cons_zero, List.take_succ_eq_append_getElem hk]
  simp only [List.map_append, List.map_cons, List.map_nil, List.append_assoc, List.singleton_append]

/-- What a list of texts weighs. -/
def wt : List ByteArray → Nat
  | [] => 0
  | t :: l => t.size + wt l
theorem wt_append (a b : List ByteArray) : wt (a ++ b) = wt a + wt b := by
  induction a with
  | nil => simp [wt]
  | cons t a ih => simp only [List.cons_append, wt, ih]; omega
theorem wt_take (l : List ByteArray) (k : Nat) (h : k < l.length) : wt (l.take (k + 1)) = wt (l.take k) + l[k].size := by
  rw [List.take_succ_eq_append_getElem h, wt_append]
  simp [wt]
theorem wt_le (l : List ByteArray) (k : Nat) : wt (l.take k) ≤ wt l := by
  have h := wt_append (l.take k) (l.drop k)
  rw [List.take_append_drop] at h
  omega

theorem bcell {W w1 : World} (hb : Below W.heap.size W w1) : (∀ b o, b < W.heap.size → w1.cell? ⟨b, o, none⟩ = W.cell? ⟨b, o, none⟩) ∧ (∀ b o, b < W.heap.size → w1.frozen? ⟨b, o, none⟩ = W.frozen? ⟨b, o, none⟩) :=
  ⟨fun b o h => hb.cell (p := ⟨b, o, none⟩) h, fun b o h => hb.frozen (p := ⟨b, o, none⟩) h⟩

/-- The texts l lie in block g from place o on, and may be written. -/
def StrsAt (W : World) (g o : Nat) (l : List ByteArray) : Prop := ∀ j (h : j < l.length), W.cell? ⟨g, o + j, none⟩ = some (.string l[j]) ∧ W.frozen? ⟨g, o + j, none⟩ = false

theorem StrsAt.strs {W : World} {g o : Nat} {l : List ByteArray} (h : StrsAt W g o l) (c : Nat) : Strs W (.slice (some ⟨g, o, none⟩) l.length c) l :=
  ⟨_, c, rfl, fun j hj => ⟨g, o, rfl, (h j hj).1⟩⟩
theorem StrsAt.below {W W' : World} {g o : Nat} {l : List ByteArray} (h : StrsAt W g o l) (hb : Below W.heap.size W W') : StrsAt W' g o l := fun j hj => by
  have hl := World.block_lt_of_cell? W _ (h j hj).1
  rw [hb.cell hl, hb.frozen hl]
  exact h j hj
theorem StrsAt.set {W : World} {g o i : Nat} {l : List ByteArray} (h : StrsAt W g o l) (hi : i < l.length) (t : ByteArray) : StrsAt (W.setCell ⟨g, o + i, none⟩ (.string t)) g o (l.set i t) := fun j hj => by
  have hj2 : j < l.length := by simpa using hj
  refine ⟨?_, ?_⟩
  · by_cases e : i = j
    · subst e
      rw [List.getElem_set_self]
      exact World.cell?_setCell_same _ _ _ (h i hi).1
    · rw [List.getElem_set_ne e]
      rw [World.cell?_setCell_other W _ _ _ (by intro h2; injection h2 with _ h3 _; omega)]
      exact (h j hj2).1
  · have := (h j hj2).2
    simpa using this

/-- The first i of the texts are marked. -/
def markTo (l : List ByteArray) (k i : Nat) : List ByteArray := marks k i ++ l.drop i
theorem length_markTo (l : List ByteArray) (k i : Nat) (h : i ≤ l.length) : (markTo l k i).length = l.length := by simp [markTo, length_marks]; omega
theorem markTo_start (l : List ByteArray) (k : Nat) : markTo l k 0 = l := by simp [markTo, marks]
theorem markTo_end (l : List ByteArray) (k : Nat) : markTo l k l.length = marks k l.length := by simp [markTo]
theorem markTo_set (l : List ByteArray) (k i : Nat) (h : i < l.length) : (markTo l k i).set i (markB (k + i)) = markTo l k (i + 1) := by
  have hl := length_marks k i
  unfold markTo
  rw [List.set_append_right _ _ (by omega), hl, Nat.sub_self, List.drop_eq_getElem_cons h, List.set_cons_zero]
  simp [marks, List.range_succ]

end Go.Proofs.Ytfpgobkedfhakab.Harn

/- What the laws' own functions on lists of pending writes answer. -/
namespace Go.Proofs.Ytfpgobkedfhakab.Harn
open Go.RowKit Go.Proofs.Ytfpgobkedfhakab.Mem Go.Proofs.Ytfpgobkedfhakab.Mark

/-- The slice v reads as the pending writes l. -/
def Pends (W : World) (v : Value) (l : List (Int × ByteArray)) : Prop :=
  ∃ a cap, v = .slice a l.length cap ∧ ∀ j (h : j < l.length), ∃ b o, a = some ⟨b, o, none⟩ ∧ W.cell? ⟨b, o + j * 2, none⟩ = some (.int .i64 l[j].1) ∧ W.cell? ⟨b, o + j * 2 + 1, none⟩ = some (.string l[j].2)

theorem Pends.below {W W' : World} {v : Value} {l : List (Int × ByteArray)} (h : Pends W v l) (hb : Below W.heap.size W W') : Pends W' v l := by
  obtain ⟨a, cap, hv, hc⟩ := h
  refine ⟨a, cap, hv, fun j hj => ?_⟩
  obtain ⟨b, o, ha, h1, h2⟩ := hc j hj
  refine ⟨b, o, ha, ?_, ?_⟩
  · rw [hb.cell (World.block_lt_of_cell? W _ h1)]; exact h1
  · rw [hb.cell (World.block_lt_of_cell? W _ h2)]; exact h2

/-- The pending writes l lie in block g from place o on, and may be written. -/
def PendsAt (W : World) (g o : Nat) (l : List (Int × ByteArray)) : Prop := ∀ j (h : j < l.length), W.cell? ⟨g, o + j * 2, none⟩ = some (.int .i64 l[j].1) ∧ W.cell? ⟨g, o + j * 2 + 1, none⟩ = some (.string l[j].2) ∧ W.frozen? ⟨g, o + j * 2, none⟩ = false ∧ W.frozen? ⟨g, o + j * 2 + 1, none⟩ = false

theorem PendsAt.pends {W : World} {g o : Nat} {l : List (Int × ByteArray)} (h : PendsAt W g o l) (c : Nat) : Pends W (.slice (some ⟨g, o, none⟩) l.length c) l :=
  ⟨_, c, rfl, fun j hj => ⟨g, o, rfl, (h j hj).1, (h j hj).2.1⟩⟩
theorem PendsAt.below {W W' : World} {g o : Nat} {l : List (Int × ByteArray)} (h : PendsAt W g o l) (hb : Below W.heap.size W W') : PendsAt W' g o l := fun j hj => by
  obtain ⟨h1, h2, h3, h4⟩ := h j hj
  have l1 := World.block_lt_of_cell? W _ h1
  have l2 := World.block_lt_of_cell? W _ h2
  exact ⟨(hb.cell l1).trans h1, (hb.cell l2).trans h2, (hb.frozen l1).trans h3, (hb.frozen l2).trans h4⟩
theorem PendsAt.set {W : World} {g o i : Nat} {l : List (Int × ByteArray)} (h : PendsAt W g o l) (hi : i < l.length) (x : Int) (t : ByteArray) : PendsAt ((W.setCell ⟨g, o + i * 2, none⟩ (.int .i64 x)).setCell ⟨g, o + i * 2 + 1, none⟩ (.string t)) g o (l.set i (x, t)) := fun j hj => by
  have hj2 : j < l.length := by simpa using hj
  obtain ⟨h1, h2, h3, h4⟩ := h j hj2
  obtain ⟨k1, k2, _, _⟩ := h i hi
  refine ⟨?_, ?_, by simpa using h3, by simpa using h4⟩
  · rw [World.cell?_setCell_other _ _ _ _ (by intro e; injection e with _ e2 _; omega)]
    by_cases e : i = j
    · subst e
      rw [List.getElem_set_self]
      exact World.cell?_setCell_same _ _ _ k1
    · rw [List.getElem_set_ne e, World.cell?_setCell_other _ _ _ _ (by intro e; injection e with _ e2 _; omega)]
      exact h1
  · by_cases e : i = j
    · subst e
      rw [List.getElem_set_self]
      refine World.cell?_setCell_same _ _ _ (u := .string l[i].2) ?_
      rw [World.cell?_setCell_other _ _ _ _ (by intro e; injection e with _ e2 _; omega)]
      exact k2
    · rw [List.getElem_set_ne e, World.cell?_setCell_other _ _ _ _ (by intro e; injection e with _ e2 _; omega), World.cell?_setCell_other _ _ _ _ (by intro e; injection e with _ e2 _; omega)]
      exact h2

/-- A list of pending writes of which the first k are laid. -/
def pcopy (l : List (Int × ByteArray)) (k : Nat) : List (Int × ByteArray) := l.take k ++ List.replicate (l.length - k) (0, ByteArray.empty)
theorem length_pcopy (l : List (Int × ByteArray)) (k : Nat) (h : k ≤ l.length) : (pcopy l k).length = l.length := by simp [pcopy]; omega
theorem pcopy_start (l : List (Int × ByteArray)) : pcopy l 0 = List.replicate l.length (0, ByteArray.empty) := by simp [pcopy]
theorem pcopy_end (l : List (Int × ByteArray)) : pcopy l l.length = l := by simp [pcopy]
theorem pcopy_set (l : List (Int × ByteArray)) (k : Nat) (hk : k < l.length) : (pcopy l k).set k l[k] = pcopy l (k + 1) := by
  have hl : (l.take k).length = k := by simp; omega
  unfold pcopy
  rw [List.set_append_right _ _ (by omega), hl, Nat.sub_self, show l.length - k = (l.length - (k + 1)) + 1 by omega, List.replicate_succ, List.set_cons_zero, List.take_succ_eq_append_getElem hk]
  simp only [List.append_assoc, List.singleton_append]

end Go.Proofs.Ytfpgobkedfhakab.Harn

/- Lists of pending writes, sized, marked and held by the laws' own functions. -/
namespace Go.Proofs.Ytfpgobkedfhakab.Harn
open Go.RowKit Go.Proofs.Ytfpgobkedfhakab.Mem Go.Proofs.Ytfpgobkedfhakab.Mark

theorem PendsAt.set1 {W : World} {g o i : Nat} {l : List (Int × ByteArray)} (h : PendsAt W g o l) (hi : i < l.length) (x : Int) : PendsAt (W.setCell ⟨g, o + i * 2, none⟩ (.int .i64 x)) g o (l.set i (x, l[i].2)) := fun j hj => by
  have hj2 : j < l.length := by simpa using hj
  obtain ⟨h1, h2, h3, h4⟩ := h j hj2
  obtain ⟨k1, k2, _, _⟩ := h i hi
  refine ⟨?_, ?_, by simpa using h3, by simpa using h4⟩
  · by_cases e : i = j
    · subst e
      rw [List.getElem_set_self]
      exact World.cell?_setCell_same _ _ _ k1
    · rw [List.getElem_set_ne e, World.cell?_setCell_other _ _ _ _ (by intro e; injection e with _ e2 _; omega)]
      exact h1
  · rw [World.cell?_setCell_other _ _ _ _ (by intro e; injection e with _ e2 _; omega)]
    by_cases e : i = j
    · subst e
      rw [List.getElem_set_self]
      exact h2
    · rw [List.getElem_set_ne e]
      exact h2
theorem PendsAt.set2 {W : World} {g o i : Nat} {l : List (Int × ByteArray)} (h : PendsAt W g o l) (hi : i < l.length) (t : ByteArray) : PendsAt (W.setCell ⟨g, o + i * 2 + 1, none⟩ (.string t)) g o (l.set i (l[i].1, t)) := fun j hj => by
  have hj2 : j < l.length := by simpa using hj
  obtain ⟨h1, h2, h3, h4⟩ := h j hj2
  obtain ⟨k1, k2, _, _⟩ := h i hi
  refine ⟨?_, ?_, by simpa using h3, by simpa using h4⟩
  · rw [World.cell?_setCell_other _ _ _ _ (by intro e; injection e with _ e2 _; omega)]
    by_cases e : i = j
    · subst e
      rw [List.getElem_set_self]
      exact h1
    · rw [List.getElem_set_ne e]
      exact h1
  · by_cases e : i = j
    · subst e
      rw [List.getElem_set_self]
      exact World.cell?_setCell_same _ _ _ k2
    · rw [List.getElem_set_ne e, World.cell?_setCell_other _ _ _ _ (by intro e; injection e with _ e2 _; omega)]
      exact h2

def marksP (k n : Nat) : List (Int × ByteArray) := (List.range n).map fun i => (((k + 2 * i : Nat) : Int), markB (k + 2 * i + 1))
theorem length_marksP (k n : Nat) : (marksP k n).length = n := by simp [marksP]
def markPTo (l : List (Int × ByteArray)) (k i : Nat) : List (Int × ByteArray) := marksP k i ++ l.drop i
theorem length_markPTo (l : List (Int × ByteArray)) (k i : Nat) (h : i ≤ l.length) : (markPTo l k i).length = l.length := by simp [markPTo, length_marksP]; omega
theorem markPTo_start (l : List (Int × ByteArray)) (k : Nat) : markPTo l k 0 = l := by simp [markPTo, marksP]
theorem markPTo_end (l : List (Int × ByteArray)) (k : Nat) : markPTo l k l.length = marksP k l.length := by simp [markPTo]
theorem markPTo_set (l : List (Int × ByteArray)) (k i : Nat) (h : i < l.length) : (markPTo l k i).set i (((k + 2 * i : Nat) : Int), markB (k + 2 * i + 1)) = markPTo l k (i + 1) := by
  have hl := length_marksP k i
  unfold markPTo
  rw [List.set_append_right _ _ (by omega), hl, Nat.sub_self, List.drop_eq_getElem_cons h, List.set_cons_zero]
  simp [marksP, List.range_succ]

end Go.Proofs.Ytfpgobkedfhakab.Harn

/- A disk that came in, opened: its sectors and its pending writes. -/
namespace Go.Proofs.Ytfpgobkedfhakab.Harn
open Go.ChangeShapes Go.WideShapes Go.ChangeAt Go.RowKit Go.Deep
variable {H : Type} {enc : TypeId × Value → H}

theorem at_none {W : World} {a : Addr} {v : Value} (h : W.cell? (a.add 0) = some v) : a = ⟨a.block, a.off, none⟩ ∧ ∀ j, a.add j = ⟨a.block, a.off + j, none⟩ := by
  have hs : a.spot = none := by simpa [Addr.add] using World.cell?_spot h
  obtain ⟨b, o, s⟩ := a
  simp only at hs
  subst hs
  refine ⟨rfl, fun j => ?_⟩
  unfold Addr.add
  split <;> simp_all

theorem open_strs_at {P : Program} {t e : TypeId} {W : World} {sp : Nat → Bool} {fuel : Nat} {v : Value} {x : DataW H × List MemPlace} (ht : P.underlying t = some (.slice e)) (he : P.underlying e = some .string) (hc : P.cellsOf e = 1)
    (h : DataW.trod enc P W 0 sp true fuel t [v] = some x) : ∃ l, Strs W v l ∧ l.length ≤ maxLen ∧ ∀ t ∈ l, t.size ≤ maxLen := by
  rcases open_strings ht he hc h with ⟨hcs, _⟩ | ⟨a, len, cap, ss, hcs, _, hl, hm, hz, _, hcell, hsz⟩
  · simp at hcs
    exact ⟨[], ⟨none, 0, hcs, fun j hj => by simp at hj⟩, by simp, by simp⟩
  · simp at hcs
    have hls : len ≤ ss.length := by rw [hz]; split <;> omega
    have hlt : (ss.take len).length = len := by simp; omega
    refine ⟨ss.take len, ⟨some a, cap, by rw [hlt]; exact hcs, fun j hj => ?_⟩, by omega, fun t ht => hsz t (List.mem_of_mem_take ht)⟩
    have hj2 : j < len := by omega
    have hcj := hcell j (by omega)
    obtain ⟨e1, e2⟩ := at_none (hcell 0 (by omega))
    refine ⟨a.block, a.off, by rw [← e1], ?_⟩
    rw [← e2 j, hcj]
    simp [List.getD, List.getElem?_eq_getElem (show j < ss.length by omega)]

def strV : Value → ByteArray | .string s => s | _ => ByteArray.empty

theorem open_pends_at {P : Program} {t e : TypeId} {f0 f1 : Field} {W : World} {sp : Nat → Bool} {fuel : Nat} {v : Value} {x : DataW H × List MemPlace} (ht : P.underlying t = some (.slice e)) (he : P.underlying e = some (.struct #[f0, f1]))
    (ce : P.cellsOf e = 2) (o0 : f0.offset = 0) (o1 : f1.offset = 1) (c0 : P.cellsOf f0.type = 1) (c1 : P.cellsOf f1.type = 1) (u0 : P.underlying f0.type = some (.int .i64)) (u1 : P.underlying f1.type = some .string)
    (h : DataW.trod enc P W 0 sp true fuel t [v] = some x) : ∃ l, Pends W v l ∧ l.length ≤ maxLen ∧ ∀ y ∈ l, y.2.size ≤ maxLen ∧ -9223372036854775808 ≤ y.1 ∧ y.1 ≤ 9223372036854775807 := by
  rcases open_slice_pairs ht he ce o0 o1 c0 c1 h with ⟨hcs, _⟩ | ⟨a, len, cap, m, n, V0, V1, D0, D1, P0, P1, hcs, _, hl, hm, hmm, _, hx⟩
  · simp at hcs
    exact ⟨[], ⟨none, 0, hcs, fun j hj => by simp at hj⟩, by simp, by simp⟩
  · simp at hcs
    have hlm : len ≤ m := by rw [hmm]; split <;> omega
    have each : ∀ i, i < len → ∃ k s, V0 i = .int .i64 k ∧ V1 i = .string s ∧ s.size ≤ maxLen ∧ (Lit.int .i64 k).wf = true := by
      intro i hi
      obtain ⟨_, _, h3, h4⟩ := hx i (by omega)
      obtain ⟨k, e1, _, hw⟩ := DataW.trod_int u0 h3
      obtain ⟨s, e2, _, hs⟩ := DataW.trod_string u1 h4
      simp at e1 e2
      exact ⟨k, s, e1, e2, hs, hw⟩
    refine ⟨(List.range len).map fun i => (intOf (V0 i), strV (V1 i)), ⟨some a, cap, by simpa using hcs, fun j hj => ?_⟩, by simp; omega, fun y hy => ?_⟩
    · have hj2 : j < len := by simpa using hj
      obtain ⟨h1, h2, _, _⟩ := hx j (by omega)
      obtain ⟨k, s, e1, e2, _, _⟩ := each j hj2
      obtain ⟨a1, a2⟩ := at_none (by have := (hx 0 (by omega)).1; simpa using this)
      refine ⟨a.block, a.off, by rw [← a1], ?_, ?_⟩
      · rw [← a2, h1]; simp [e1, intOf]
      · rw [Nat.add_assoc, ← a2, h2]; simp [e2, strV]
    · simp only [List.mem_map, List.mem_range] at hy
      obtain ⟨i, hi, rfl⟩ := hy
      obtain ⟨k, s, e1, e2, hs, hw⟩ := each i hi
      have hb := bounds_i64 hw
      exact ⟨by simp [e2, strV, hs], by simp [e1, intOf]; exact hb.1, by simp [e1, intOf]; exact hb.2⟩

end Go.Proofs.Ytfpgobkedfhakab.Harn

/- What the laws' own functions on disks answer. -/
namespace Go.Proofs.Ytfpgobkedfhakab.Harn
open Go.RowKit Go.Proofs.Ytfpgobkedfhakab.Mem Go.Proofs.Ytfpgobkedfhakab.Mark

theorem row_strs {W : World} {g : Nat} {l : List ByteArray} {T : TypeId} (h : HasRow W g (l.map Value.string) T) : StrsAt W g 0 l := fun j hj => by
  refine ⟨?_, by rw [Mem.frozen_of_row h]⟩
  rw [Mem.cell_of_row h]
  simp [hj]

theorem PendsAt.other {W : World} {g o : Nat} {l : List (Int × ByteArray)} (h : PendsAt W g o l) {a : Addr} (ha : a.block ≠ g) (v : Value) : PendsAt (W.setCell a v) g o l := fun j hj => by
  obtain ⟨h1, h2, h3, h4⟩ := h j hj
  refine ⟨?_, ?_, by simpa using h3, by simpa using h4⟩
  · rw [World.cell?_setCell_other _ _ _ _ (by intro e; exact ha (by rw [e]))]; exact h1
  · rw [World.cell?_setCell_other _ _ _ _ (by intro e; exact ha (by rw [e]))]; exact h2

end Go.Proofs.Ytfpgobkedfhakab.Harn

/- What the model's DiskRight answers. -/
namespace Go.Proofs.Ytfpgobkedfhakab.Disk
open Go.RowKit Go.Proofs.Ytfpgobkedfhakab.Mem Go.Proofs.Ytfpgobkedfhakab.Harn

/-- A pending write that may stand on a disk of so many sectors. -/
def okP (n : Nat) (y : Int × ByteArray) : Prop := 0 ≤ y.1 ∧ y.1 < n ∧ y.2.size ≤ 64
/-- Is the disk right? -/
def Right (ls : List ByteArray) (lp : List (Int × ByteArray)) : Prop := 1 ≤ ls.length ∧ ls.length ≤ 64 ∧ lp.length ≤ 200 ∧ (∀ t ∈ ls, t.size ≤ 64) ∧ ∀ y ∈ lp, okP ls.length y
def okPB (n : Nat) (y : Int × ByteArray) : Bool := decide (0 ≤ y.1) && decide (y.1 < n) && decide (y.2.size ≤ 64)
def rightB (ls : List ByteArray) (lp : List (Int × ByteArray)) : Bool := decide (1 ≤ ls.length) && decide (ls.length ≤ 64) && decide (lp.length ≤ 200) && ls.all (fun t => decide (t.size ≤ 64)) && lp.all (okPB ls.length)
theorem right_iff (ls : List ByteArray) (lp : List (Int × ByteArray)) : rightB ls lp = true ↔ Right ls lp := by
  simp only [rightB, Right, okPB, okP, Bool.and_eq_true, decide_eq_true_eq, List.all_eq_true, and_assoc]
theorem right_yes {ls : List ByteArray} {lp : List (Int × ByteArray)} (h : Right ls lp) : rightB ls lp = true := (right_iff ls lp).2 h
theorem right_no {ls : List ByteArray} {lp : List (Int × ByteArray)} (h : ¬ Right ls lp) : rightB ls lp = false := by
  cases e : rightB ls lp with
  | false => rfl
  | true => exact absurd ((right_iff ls lp).1 e) h

end Go.Proofs.Ytfpgobkedfhakab.Disk

/- What the laws' own functions that weigh a disk answer. -/
namespace Go.Proofs.Ytfpgobkedfhakab.Harn
open Go.RowKit Go.Proofs.Ytfpgobkedfhakab.Mem Go.Proofs.Ytfpgobkedfhakab.Mark

/-- What a list of pending writes weighs. -/
def wtP (l : List (Int × ByteArray)) : Nat := wt (l.map (·.2))
theorem wtP_take (l : List (Int × ByteArray)) (k : Nat) (h : k < l.length) : wtP (l.take (k + 1)) = wtP (l.take k) + l[k].2.size := by
  unfold wtP
  rw [List.take_succ_eq_append_getElem h, List.map_append, wt_append]
  simp [wt]
theorem wtP_le (l : List (Int × ByteArray)) (k : Nat) : wtP (l.take k) ≤ wtP l := by
  unfold wtP
  rw [List.map_take]
  exact wt_le _ _

end Go.Proofs.Ytfpgobkedfhakab.Harn

/- What the laws' own functions answer that weigh, mark and look at a disk. -/
namespace Go.Proofs.Ytfpgobkedfhakab.Harn
open Go.RowKit Go.Proofs.Ytfpgobkedfhakab.Mem Go.Proofs.Ytfpgobkedfhakab.Mark

/-- What a disk weighs. -/
def wtD (ls : List ByteArray) (lp : List (Int × ByteArray)) : Nat := ls.length + wt ls + (lp.length + wtP lp)

theorem far_cell {W W' : World} {row : Option Nat} (hg : W.grownBy W' row) (a : Addr) (hlt : a.block < W.heap.size) (hne : some a.block ≠ row) : W'.cell? a = W.cell? a := by
  unfold World.cell?
  rw [hg.block a.block hlt hne]
theorem far_frozen {W W' : World} {row : Option Nat} (hg : W.grownBy W' row) (a : Addr) (hlt : a.block < W.heap.size) (hne : some a.block ≠ row) : W'.frozen? a = W.frozen? a := by
  unfold World.frozen?
  rw [hg.block a.block hlt hne]

/-- What a function left that wrote into one block alone. -/
theorem StrsAt.grown {W W' : World} {b g o : Nat} {l : List ByteArray} (h : StrsAt W g o l) (hg : W.grownBy W' (some b)) (hn : g ≠ b) : StrsAt W' g o l := fun j hj => by
  obtain ⟨h1, h2⟩ := h j hj
  have hlt := World.block_lt_of_cell? W _ h1
  have hne : some g ≠ some b := fun e => hn (Option.some.inj e)
  exact ⟨(far_cell hg _ hlt hne).trans h1, (far_frozen hg _ hlt hne).trans h2⟩
theorem PendsAt.grown {W W' : World} {b g o : Nat} {l : List (Int × ByteArray)} (h : PendsAt W g o l) (hg : W.grownBy W' (some b)) (hn : g ≠ b) : PendsAt W' g o l := fun j hj => by
  obtain ⟨h1, h2, h3, h4⟩ := h j hj
  have hlt := World.block_lt_of_cell? W _ h1
  have hne : some g ≠ some b := fun e => hn (Option.some.inj e)
  exact ⟨(far_cell hg ⟨g, o + j * 2, none⟩ hlt hne).trans h1, (far_cell hg ⟨g, o + j * 2 + 1, none⟩ hlt hne).trans h2, (far_frozen hg ⟨g, o + j * 2, none⟩ hlt hne).trans h3, (far_frozen hg ⟨g, o + j * 2 + 1, none⟩ hlt hne).trans h4⟩

end Go.Proofs.Ytfpgobkedfhakab.Harn

/- What the laws' own functions on lists of numbers (int64) answer: copied, compared, marked. -/
namespace Go.Proofs.Ytfpgobkedfhakab.Harn
open Go.RowKit Go.Proofs.Ytfpgobkedfhakab.Mem Go.Proofs.Ytfpgobkedfhakab.Mark

/-- The slice v reads as the numbers l. -/
def Ints (W : World) (v : Value) (l : List Int) : Prop :=
  ∃ a cap, v = .slice a l.length cap ∧ ∀ j (h : j < l.length), ∃ b o, a = some ⟨b, o, none⟩ ∧ W.cell? ⟨b, o + j, none⟩ = some (.int .i64 l[j])

theorem Ints.below {W W' : World} {v : Value} {l : List Int} (h : Ints W v l) (hb : Below W.heap.size W W') : Ints W' v l := by
  obtain ⟨a, cap, hv, hc⟩ := h
  refine ⟨a, cap, hv, fun j hj => ?_⟩
  obtain ⟨b, o, ha, hcell⟩ := hc j hj
  refine ⟨b, o, ha, ?_⟩
  rw [hb.cell (World.block_lt_of_cell? W _ hcell)]
  exact hcell

/-- The numbers l lie in block g from place o on, and may be written. -/
def IntsAt (W : World) (g o : Nat) (l : List Int) : Prop := ∀ j (h : j < l.length), W.cell? ⟨g, o + j, none⟩ = some (.int .i64 l[j]) ∧ W.frozen? ⟨g, o + j, none⟩ = false

theorem IntsAt.ints {W : World} {g o : Nat} {l : List Int} (h : IntsAt W g o l) (c : Nat) : Ints W (.slice (some ⟨g, o, none⟩) l.length c) l :=
  ⟨_, c, rfl, fun j hj => ⟨g, o, rfl, (h j hj).1⟩⟩
theorem IntsAt.below {W W' : World} {g o : Nat} {l : List Int} (h : IntsAt W g o l) (hb : Below W.heap.size W W') : IntsAt W' g o l := fun j hj => by
  have hl := World.block_lt_of_cell? W _ (h j hj).1
  rw [hb.cell hl, hb.frozen hl]
  exact h j hj
theorem IntsAt.grown {W W' : World} {b g o : Nat} {l : List Int} (h : IntsAt W g o l) (hg : W.grownBy W' (some b)) (hn : g ≠ b) : IntsAt W' g o l := fun j hj => by
  obtain ⟨h1, h2⟩ := h j hj
  have hlt := World.block_lt_of_cell? W _ h1
  have hne : some g ≠ some b := fun e => hn (Option.some.inj e)
  exact ⟨(far_cell hg _ hlt hne).trans h1, (far_frozen hg _ hlt hne).trans h2⟩
theorem IntsAt.set {W : World} {g o i : Nat} {l : List Int} (h : IntsAt W g o l) (hi : i < l.length) (t : Int) : IntsAt (W.setCell ⟨g, o + i, none⟩ (.int .i64 t)) g o (l.set i t) := fun j hj => by
  have hj2 : j < l.length := by simpa using hj
  refine ⟨?_, ?_⟩
  · by_cases e : i = j
    · subst e
      rw [List.getElem_set_self]
      exact World.cell?_setCell_same _ _ _ (h i hi).1
    · rw [List.getElem_set_ne e]
      rw [World.cell?_setCell_other W _ _ _ (by intro h2; injection h2 with _ h3 _; omega)]
      exact (h j hj2).1
  · have := (h j hj2).2
    simpa using this
theorem row_ints {W : World} {g : Nat} {l : List Int} {T : TypeId} (h : HasRow W g (l.map (Value.int .i64)) T) : IntsAt W g 0 l := fun j hj => by
  refine ⟨?_, by rw [Mem.frozen_of_row h]⟩
  rw [Mem.cell_of_row h]
  simp [hj]

theorem infoI64 : (Try.prog.info? 2).map (fun i => (i.zero, i.size, i.bytes)) = some (some (.int .i64 0), 1, 8) := by kernel_rfl
/-- A list of numbers of which the first k are laid. -/
def icopy (l : List Int) (k : Nat) : List Value := (l.take k).map (Value.int .i64) ++ List.replicate (l.length - k) (.int .i64 0)
theorem icopy_start (l : List Int) : icopy l 0 = List.replicate l.length (.int .i64 0) := by simp [icopy]
theorem icopy_end (l : List Int) : icopy l l.length = l.map (Value.int .i64) := by simp [icopy]
theorem icopy_cell (l : List Int) (k : Nat) (hk : k < l.length) : (icopy l k)[k]? = some (.int .i64 0) := by
  have hl : ((l.take k).map (Value.int .i64)).length = k := by simp; omega
  unfold icopy
  rw [List.getElem?_append_right (by omega), hl, Nat.sub_self, List.getElem?_replicate, if_pos (by omega)]
theorem icopy_set (l : List Int) (k : Nat) (hk : k < l.length) : (icopy l k).set k (.int .i64 l[k]) = icopy l (k + 1) := by
  have hl : ((l.take k).map (Value.int .i64)).length = k := by simp; omega
  unfold icopy
  rw [List.set_append_right _ _ (by omega), hl, Nat.sub_self, show l.length - k = (l.length - (k + 1)) + 1 by omega, List.replicate_succ, List.set_cons_zero, List.take_succ_eq_append_getElem hk]
  simp only [List.map_append, List.map_cons, List.map_nil, List.append_assoc, List.singleton_append]

/-- The marks of a list of n numbers, from k on. -/
def marksI (k n : Nat) : List Int := (List.range n).map fun (i : Nat) => ((k + i : Nat) : Int)
theorem length_marksI (k n : Nat) : (marksI k n).length = n := by simp [marksI]
def markITo (l : List Int) (k i : Nat) : List Int := marksI k i ++ l.drop i
theorem length_markITo (l : List Int) (k i : Nat) (h : i ≤ l.length) : (markITo l k i).length = l.length := by simp [markITo, length_marksI]; omega
theorem markITo_start (l : List Int) (k : Nat) : markITo l k 0 = l := by simp [markITo, marksI]
theorem markITo_end (l : List Int) (k : Nat) : markITo l k l.length = marksI k l.length := by simp [markITo]
theorem markITo_set (l : List Int) (k i : Nat) (h : i < l.length) : (markITo l k i).set i ((k + i : Nat) : Int) = markITo l k (i + 1) := by
  have hl := length_marksI k i
  unfold markITo
  rw [List.set_append_right _ _ (by omega), hl, Nat.sub_self, List.drop_eq_getElem_cons h, List.set_cons_zero]
  simp [marksI, List.range_succ]

end Go.Proofs.Ytfpgobkedfhakab.Harn

/- 'append([]T{}, xs...)': a copy of a list of texts, of pending writes, in a block of its own. -/
namespace Go.Proofs.Ytfpgobkedfhakab.Harn
open Go.RowKit Go.Proofs.Ytfpgobkedfhakab.Mem Go.Proofs.Ytfpgobkedfhakab.Mark

theorem bel_grown {W W1 : World} (h : W.grownBy W1 none) : Below W.heap.size W W1 := ⟨h.os, h.tape, h.output, h.size, fun k hk => h.block k hk (by simp)⟩

/-- A run of 'append' of at least one element behind an empty slice without room. -/
theorem app_new {P : Program} (t ty e : TypeId) (z : Value) (size bytes : Nat) (ht : P.underlying t = some (.slice e)) (hi : (P.info? e).map (fun i => (i.zero, i.size, i.bytes)) = some (some z, size, bytes)) (hzs : z.cells.size = size) (hsz : 0 < size) (b0 : Addr)
    (a : Addr) (m c : Nat) (news : List Value) (w : World) (hl : news.length = m * size) (hnews : ∀ j u, news[j]? = some u → w.cell? (a.add j) = some u) (hm : 0 < m) (h63 : m ≤ maxLen) (hbytes : m * bytes ≤ 140737488355328) :
    ∃ g cap W1, (Builtin.append_ #[t, t] ty #[.slice (some b0) 0 0, .slice (some a) m c]).run P w = .ok (.slice (some ⟨g, 0, none⟩) m cap) W1 ∧ w.heap.size ≤ g ∧ g < W1.heap.size ∧ Below w.heap.size w W1 ∧ (∀ j u, news[j]? = some u → W1.cell? ⟨g, j, none⟩ = some u) ∧ (∀ j, W1.frozen? ⟨g, j, none⟩ = false) ∧ W1.ownsRow w.heap.size e size (.slice (some ⟨g, 0, none⟩) m cap) m news := by
  obtain ⟨i, hi0, hz0, hz1, hz2⟩ := info_parts hi
  obtain ⟨v', W1, hr, hown, hgr⟩ := run_append_arg_grows (P := P) w t ty e i z size bytes ht hi0 hz0 hz1 hz2 hzs hsz b0 0 0 [] (by simp) (by simp) a m c news hl hnews (by omega) (by omega) (by simpa using hbytes)
  rw [Nat.zero_add, List.nil_append] at hown
  have hown0 := hown
  rcases hown.2 with ⟨_, h0⟩ | ⟨g, cap, cur, rfl, hb, hg, h1, h2, h3, h4⟩
  · omega
  · refine ⟨g, cap, W1, hr, hb, ?_, bel_grown hgr, fun j u hu => ?_, fun j => ?_, hown0⟩
    · rcases Nat.lt_or_ge g W1.heap.size with hlt | hge
      · exact hlt
      · rw [Array.getElem?_eq_none hge] at hg; cases hg
    · rw [cell_of_row W1 g j cur e (0, 0) hg]
      have hj : j < news.length := by
        rcases Nat.lt_or_ge j news.length with h | h
        · exact h
        · rw [List.getElem?_eq_none h] at hu; cases hu
      rw [← h4, List.getElem?_take_of_lt (by omega)] at hu
      simpa using hu
    · simp [World.frozen?, hg]

theorem app_none {P : Program} (t ty e : TypeId) (z : Value) (size bytes : Nat) (ht : P.underlying t = some (.slice e)) (hi : (P.info? e).map (fun i => (i.zero, i.size, i.bytes)) = some (some z, size, bytes)) (b0 : Addr) (a : Option Addr) (c : Nat) (w : World) :
    (Builtin.append_ #[t, t] ty #[.slice (some b0) 0 0, .slice a 0 c]).run P w = .ok (.slice (some b0) 0 0) w := by
  obtain ⟨i, hi0, hz0, hz1, hz2⟩ := info_parts hi
  cases a <;> simp [Builtin.append_, run_underlying ht, sizeOf, typeInfo, hi0, Builtin.lenOf, Builtin.firstCells, storeCells, loadCells, loadCellsFrom]

theorem app_strs (ty : TypeId) (g0 : Nat) (v : Value) (ls : List ByteArray) (W : World) (h : Strs W v ls) (hn : ls.length ≤ 1100000) (hg0 : g0 < W.heap.size) :
    ∃ g cap W1, (Builtin.append_ #[39, 39] ty #[.slice (some ⟨g0, 0, none⟩) 0 0, v]).run Try.prog W = .ok (.slice (some ⟨g, 0, none⟩) ls.length cap) W1 ∧ StrsAt W1 g 0 ls ∧ (g = g0 ∨ W.heap.size ≤ g) ∧ g < W1.heap.size ∧ Below W.heap.size W W1 := by
  obtain ⟨a, c, rfl, hc⟩ := h
  by_cases h0 : ls.length = 0
  · have e : ls = [] := List.length_eq_zero_iff.1 h0
    subst e
    exact ⟨g0, 0, W, app_none _ ty _ _ _ _ underStrs infoStr _ a c W, fun j hj => absurd hj (by simp), .inl rfl, hg0, Below.refl _ _⟩
  · obtain ⟨b, o, rfl, _⟩ := hc 0 (by omega)
    obtain ⟨g, cap, W1, hr, h1, h2, h3, h4, h5, _⟩ := app_new (P := Try.prog) 39 ty 9 (.string ByteArray.empty) 1 16 underStrs infoStr rfl (by omega) ⟨g0, 0, none⟩ ⟨b, o, none⟩ ls.length c (ls.map Value.string) W (by simp) (fun j u hu => by
      rw [List.getElem?_map] at hu
      cases e : ls[j]? with
      | none => rw [e] at hu; cases hu
      | some t =>
        rw [e] at hu
        obtain ⟨hj, ht⟩ := List.getElem?_eq_some_iff.1 e
        obtain ⟨b', o', hbo, hcell⟩ := hc j hj
        injection hbo with hbo
        injection hbo with e1 e2 _
        subst e1 e2
        have hadd : (⟨b, o, none⟩ : Addr).add j = ⟨b, o + j, none⟩ := by unfold Addr.add; split <;> simp_all
        rw [hadd, hcell, ht]
        simpa using hu) (by omega) (by unfold maxLen; omega) (by omega)
    exact ⟨g, cap, W1, hr, fun j hj => ⟨by rw [Nat.zero_add]; exact h4 j _ (by simp [hj]), by rw [Nat.zero_add]; exact h5 j⟩, .inr h1, h2, h3⟩

/-- The cells of a list of pending writes. -/
def pcells : List (Int × ByteArray) → List Value
  | [] => []
  | y :: l => .int .i64 y.1 :: .string y.2 :: pcells l
theorem length_pcells (l : List (Int × ByteArray)) : (pcells l).length = l.length * 2 := by
  induction l with
  | nil => rfl
  | cons y l ih => simp [pcells, ih]; omega
theorem pcells_at (l : List (Int × ByteArray)) (j : Nat) (h : j < l.length) : (pcells l)[j * 2]? = some (.int .i64 l[j].1) ∧ (pcells l)[j * 2 + 1]? = some (.string l[j].2) := by
  induction l generalizing j with
  | nil => simp at h
  | cons y l ih =>
    cases j with
    | zero => simp [pcells]
    | succ j =>
      have := ih j (by simpa using h)
      rw [show (j + 1) * 2 = j * 2 + 1 + 1 by omega]
      simpa [pcells] using this

/-- An 'append' whose run is known, at a step of a region that draws its order. -/
theorem step_app {P : Program} {w : World} {ops : Array Oper} {o : Oper} {a : Act} {K : Act → World → Prop} {Q : Exit → Act → World → Prop} {E : Prop} (hgd : o.guard = none) (s x : Operand) (t : TypeId)
    (ho : o.op = .call { callee := .builtin .append, args := #[s, x], argTypes := #[t, t] }) (v u r : Value) (w' : World) (hs : a.eval s = v) (hx : a.eval x = u)
    (hr : (Builtin.append_ #[t, t] o.type #[v, u]).run P w = .ok r w') (h : K (a.put o.dst r) w') :
    if Region.wanted o (yielded ops a.tmps) = true then Oper.wp P o a w K Q else E := by
  have hw : Region.wanted o (yielded ops a.tmps) = true := by simp [Region.wanted, hgd]
  rw [if_pos hw]
  unfold Oper.wp execOp
  simp only [ho, resolve, invoke, builtin, Sem.run_bind, Sem.run_pure, Result.andThen_ok, List.map_toArray, List.map_cons, List.map_nil, hs, hx, hr]
  exact h
end Go.Proofs.Ytfpgobkedfhakab.Harn

/- What the program's join answers: the two texts in one, in new memory. -/
namespace Go.Proofs.Ytfpgobkedfhakab.Join
open Go.RowKit Go.Proofs.Ytfpgobkedfhakab.Mem
theorem info8 : (Try.prog.info? 5).map (fun i => (i.zero, i.size, i.bytes)) = some (some (.int .u8 0), 1, 1) := by kernel_rfl
theorem under : Try.prog.underlying 52 = some (.slice 5) := by kernel_rfl
theorem underS : Try.prog.underlying 9 = some .string := by kernel_rfl
theorem under8 : Try.prog.underlying 5 = some (.int .u8) := by kernel_rfl

set_option maxHeartbeats 400000 in
theorem join_any (a b : ByteArray) (w : World) (ha : a.size ≤ 10000000) (hb : b.size ≤ 10000000) :
    Calls Try.prog 25 #[.string a, .string b] w fun e w' => e = .returned (.string (a ++ b)) ∧ Below w.heap.size w w' := by
  obtain ⟨W1, hmk, hg1, hb1, hz1⟩ := make_bytes (P := Try.prog) 52 5 under info8 (a.size + b.size) (by omega) w
  obtain ⟨W2, hc2, hg2, hb2, hz2⟩ := copy_str (P := Try.prog) 52 9 3 5 under info8 W1 w.heap.size 0 (a.size + b.size) (a.size + b.size) a _ hg1 (by omega) (by simp)
  have hla : (Lib.byteCells a.data.toList).length = a.size := by simp [Lib.byteCells]
  have hlb : (Lib.byteCells b.data.toList).length = b.size := by simp [Lib.byteCells]
  by_cases hbe : b.size = 0
  · obtain rfl : b = ByteArray.empty := by
      apply ByteArray.ext; apply Array.ext' ; exact List.eq_nil_of_length_eq_zero hbe
    have hce := copy_empty (P := Try.prog) 52 9 3 5 under info8
    have hcv := text_of_row (P := Try.prog) 52 9 5 under under8 underS W2 w.heap.size a.size a.size a.data.toList [] (bytes_data a) (by simpa using hg2)
    have hE : Hid ((⟨a.data.toList.toArray⟩ : ByteArray) = a ++ ByteArray.empty) := by show _ = _; rw [← append_eq]; simp
    have HB : Hid (Below w.heap.size w W2) := hb1.trans hb2
    simp at hmk hc2
    clear hg1 hg2 hb1 hb2 hla hlb hbe
    go_enter Try.func25, Try.ntmps25
    go_wp2
    go_ret
    exact ⟨by simp, HB.out⟩
  · obtain ⟨W3, hc3, hg3, hb3, hz3⟩ := copy_str (P := Try.prog) 52 9 3 5 under info8 W2 w.heap.size a.size b.size b.size b _ hg2 (by omega) (by simp [hla])
    have hcv := text_of_row (P := Try.prog) 52 9 5 under under8 underS W3 w.heap.size (a.size + b.size) (a.size + b.size) (a.data.toList ++ b.data.toList) [] (by simp) (by
      have e : List.take a.size (List.take 0 (List.replicate (a.size + b.size) (Value.int .u8 0)) ++ Lib.byteCells a.data.toList ++ List.drop (0 + a.size) (List.replicate (a.size + b.size) (Value.int .u8 0))) = Lib.byteCells a.data.toList := by
        simp [hla]
      rw [e] at hg3
      have e2 : List.drop (a.size + b.size) (List.map (fun b : UInt8 => Value.int IntKind.u8 (b.toNat : Int)) a.data.toList) = [] := List.drop_eq_nil_of_le (by simp)
      simpa [List.drop_append, hla, Lib.byteCells, e2] using hg3)
    have HE : Hid ((⟨(a.data.toList ++ b.data.toList).toArray⟩ : ByteArray) = a ++ b) := append_eq a b
    have HB : Hid (Below w.heap.size w W3) := (hb1.trans hb2).trans hb3
    generalize (⟨(a.data.toList ++ b.data.toList).toArray⟩ : ByteArray) = ab at *
    simp only [Int.natCast_add] at hmk
    clear hg1 hg2 hb1 hb2 hla hlb hg3 hb3
    have hbn : ¬ b = ByteArray.empty := by rintro rfl; exact hbe rfl
    go_enter Try.func25, Try.ntmps25
    go_wp2
    go_ret
    have he := HE.out
    subst he
    exact ⟨rfl, HB.out⟩
end Go.Proofs.Ytfpgobkedfhakab.Join

/- What the CRC functions of the program and of the model answer, by contracts. -/
namespace Go.Proofs.Ytfpgobkedfhakab.Crc
open Go.RowKit

theorem ret_int {k : IntKind} {a b : Int} (h : a = b) : Ending.returned (.int k a) = .returned (.int k b) := by rw [h]
theorem val_int {k : IntKind} {a b : Int} (h : a = b) : Value.int k a = .int k b := by rw [h]
theorem at_lt (s : ByteArray) (k : Nat) (h : k < s.size) : s[k]?.getD 0 = s[k] := by simp [h]

theorem max32 : IntKind.u32.max = 4294967295 := by simp [IntKind.max, IntKind.bits, IntKind.signed]

end Go.Proofs.Ytfpgobkedfhakab.Crc

/- What the two functions answer that lay a sum down in four bytes. -/
namespace Go.Proofs.Ytfpgobkedfhakab.Four
open Go.RowKit Go.Proofs.Ytfpgobkedfhakab.Mem

/-- The four bytes of a number, the lowest first. -/
def fourB (n : Nat) : ByteArray := ⟨#[UInt8.ofNat n, UInt8.ofNat (n / 256), UInt8.ofNat (n / 65536), UInt8.ofNat (n / 16777216)]⟩

theorem size_fourB (n : Nat) : (fourB n).size = 4 := rfl

theorem ofNat_mod (n : Nat) : UInt8.ofNat (n % 256) = UInt8.ofNat n := by
  apply UInt8.toNat.inj; simp

theorem text4 (w : World) (x0 x1 x2 x3 : Int) (T : TypeId) :
    (convert 52 9 (.slice (some ⟨w.heap.size, 0, none⟩) 4 4)).run Try.prog (w.alloc (.cells #[.int .u8 x0, .int .u8 x1, .int .u8 x2, .int .u8 x3] T)) =
      .ok (.string ⟨#[UInt8.ofNat x0.toNat, UInt8.ofNat x1.toNat, UInt8.ofNat x2.toNat, UInt8.ofNat x3.toNat]⟩) (w.alloc (.cells #[.int .u8 x0, .int .u8 x1, .int .u8 x2, .int .u8 x3] T)) := by
  rw [run_convert_bytes_string _ _ _ _ _ _ _ Join.under Join.under8 Join.underS]
  have hl := run_loadCells_list (P := Try.prog) (w.alloc (.cells #[.int .u8 x0, .int .u8 x1, .int .u8 x2, .int .u8 x3] T)) ⟨w.heap.size, 0, none⟩ ([x0, x1, x2, x3].map (Value.int .u8)) (fun j v hj => by
    have ha : (⟨w.heap.size, 0, none⟩ : Addr).add j = ⟨w.heap.size, j, none⟩ := by unfold Addr.add; split <;> simp_all
    rw [ha, World.cell?_alloc_mark, ← hj]
    simp)
  rw [run_bytesToString _ _ 4 4 [x0, x1, x2, x3] hl]
  rfl

theorem four_eq (n : Nat) : (⟨#[UInt8.ofNat (n % 256), UInt8.ofNat (n / 256 % 256), UInt8.ofNat (n / 65536 % 256), UInt8.ofNat (n / 16777216)]⟩ : ByteArray) = fourB n := by
  rw [ofNat_mod, ofNat_mod, ofNat_mod]; rfl

theorem ret_str {a b : ByteArray} (h : a = b) : Ending.returned (.string a) = .returned (.string b) := by rw [h]

end Go.Proofs.Ytfpgobkedfhakab.Four

/- What the two Seal functions answer, by contracts. -/
namespace Go.Proofs.Ytfpgobkedfhakab.Seal
open Go.RowKit Go.Proofs.Ytfpgobkedfhakab.Mem Go.Proofs.Ytfpgobkedfhakab.Four Go.Proofs.Ytfpgobkedfhakab.Crc

/-- The seal of a text of at most 7996 bytes. -/
def sealB (s : ByteArray) : ByteArray := s ++ fourB (crcOf 0 s)

theorem size_sealB (s : ByteArray) : (sealB s).size = s.size + 4 := by simp [sealB, ByteArray.size_append, size_fourB]

end Go.Proofs.Ytfpgobkedfhakab.Seal

/- A disk of the call's own, within a range of blocks; the laws' functions on it. -/
namespace Go.Proofs.Ytfpgobkedfhakab.Harn
open Go.RowKit Go.Proofs.Ytfpgobkedfhakab.Mem Go.Proofs.Ytfpgobkedfhakab.Mark

/-- Of the old blocks those of p alone have turned. -/
structure Only (p : Nat → Prop) (w w' : World) : Prop where
  os : w'.os = w.os
  tape : w'.tape = w.tape
  output : w'.output = w.output
  size : w.heap.size ≤ w'.heap.size
  block : ∀ k, k < w.heap.size → ¬ p k → w'.heap[k]? = w.heap[k]?

theorem Only.refl (p : Nat → Prop) (w : World) : Only p w w := ⟨rfl, rfl, rfl, Nat.le_refl _, fun _ _ _ => rfl⟩
theorem Only.trans {p : Nat → Prop} {a b c : World} (h : Only p a b) (k : Only p b c) : Only p a c :=
  ⟨k.os.trans h.os, k.tape.trans h.tape, k.output.trans h.output, Nat.le_trans h.size k.size, fun i hi hp => (k.block i (Nat.lt_of_lt_of_le hi h.size) hp).trans (h.block i hi hp)⟩
theorem Only.mono {p q : Nat → Prop} {a b : World} (h : Only p a b) (hpq : ∀ k, p k → q k) : Only q a b :=
  ⟨h.os, h.tape, h.output, h.size, fun i hi hq => h.block i hi (fun hp => hq (hpq i hp))⟩
theorem Only.of_below {w w' : World} (p : Nat → Prop) (h : Below w.heap.size w w') : Only p w w' := ⟨h.os, h.tape, h.output, h.size, fun k hk _ => h.block k hk⟩
theorem Only.of_grown {p : Nat → Prop} {w w' : World} {g : Nat} (h : w.grownBy w' (some g)) (hg : p g) : Only p w w' :=
  ⟨h.os, h.tape, h.output, h.size, fun k hk hn => h.block k hk (fun e => hn (by injection e with e; rw [e]; exact hg))⟩
theorem Only.below {p : Nat → Prop} {w0 w w' : World} {B : Nat} (h : Only p w w') (hb : Below B w0 w) (hB : B ≤ w.heap.size) (hp : ∀ k, k < B → ¬ p k) : Below B w0 w' :=
  ⟨h.os.trans hb.os, h.tape.trans hb.tape, h.output.trans hb.output, Nat.le_trans hb.size h.size, fun k hk => (h.block k (Nat.lt_of_lt_of_le hk hB) (hp k hk)).trans (hb.block k hk)⟩
theorem Only.cell {p : Nat → Prop} {w w' : World} (h : Only p w w') {a : Addr} (ha : a.block < w.heap.size) (hp : ¬ p a.block) : w'.cell? a = w.cell? a := by
  unfold World.cell?
  rw [h.block a.block ha hp]
theorem Only.frozen {p : Nat → Prop} {w w' : World} (h : Only p w w') {a : Addr} (ha : a.block < w.heap.size) (hp : ¬ p a.block) : w'.frozen? a = w.frozen? a := by
  unfold World.frozen?
  rw [h.block a.block ha hp]
theorem Only.row {p : Nat → Prop} {w w' : World} (h : Only p w w') {g : Nat} {cs : List Value} {e : TypeId} (hr : HasRow w g cs e) (hp : ¬ p g) : HasRow w' g cs e := by
  have hlt : g < w.heap.size := by
    rcases Nat.lt_or_ge g w.heap.size with hlt | hge
    · exact hlt
    · unfold HasRow at hr; rw [Array.getElem?_eq_none hge] at hr; cases hr
  unfold HasRow
  rw [h.block g hlt hp]
  exact hr
theorem StrsAt.only {p : Nat → Prop} {W W' : World} {g o : Nat} {l : List ByteArray} (h : StrsAt W g o l) (hg : Only p W W') (hn : l.length = 0 ∨ ¬ p g) : StrsAt W' g o l := fun j hj => by
  obtain ⟨h1, h2⟩ := h j hj
  have hlt := World.block_lt_of_cell? W _ h1
  have hp : ¬ p g := by rcases hn with h0 | h0; omega; exact h0
  exact ⟨(hg.cell hlt hp).trans h1, (hg.frozen hlt hp).trans h2⟩
theorem PendsAt.only {p : Nat → Prop} {W W' : World} {g o : Nat} {l : List (Int × ByteArray)} (h : PendsAt W g o l) (hg : Only p W W') (hn : l.length = 0 ∨ ¬ p g) : PendsAt W' g o l := fun j hj => by
  obtain ⟨h1, h2, h3, h4⟩ := h j hj
  have hlt := World.block_lt_of_cell? W _ h1
  have hp : ¬ p g := by rcases hn with h0 | h0; omega; exact h0
  exact ⟨(hg.cell (a := ⟨g, o + j * 2, none⟩) hlt hp).trans h1, (hg.cell (a := ⟨g, o + j * 2 + 1, none⟩) hlt hp).trans h2, (hg.frozen (a := ⟨g, o + j * 2, none⟩) hlt hp).trans h3, (hg.frozen (a := ⟨g, o + j * 2 + 1, none⟩) hlt hp).trans h4⟩
theorem IntsAt.only {p : Nat → Prop} {W W' : World} {g o : Nat} {l : List Int} (h : IntsAt W g o l) (hg : Only p W W') (hn : l.length = 0 ∨ ¬ p g) : IntsAt W' g o l := fun j hj => by
  obtain ⟨h1, h2⟩ := h j hj
  have hlt := World.block_lt_of_cell? W _ h1
  have hp : ¬ p g := by rcases hn with h0 | h0; omega; exact h0
  exact ⟨(hg.cell hlt hp).trans h1, (hg.frozen hlt hp).trans h2⟩

/-- The disk v has the sectors ls and the pending writes lp, each in a row of its own among the blocks from lo to hi. -/
def Own (W : World) (lo hi : Nat) (vs vp : Value) (ls : List ByteArray) (lp : List (Int × ByteArray)) : Prop :=
  ∃ va cs vb cp gs os gp op, vs = .slice va ls.length cs ∧ vp = .slice vb lp.length cp ∧ (ls.length = 0 ∨ (va = some ⟨gs, os, none⟩ ∧ lo ≤ gs ∧ gs < hi)) ∧ StrsAt W gs os ls ∧
    (lp.length = 0 ∨ (vb = some ⟨gp, op, none⟩ ∧ lo ≤ gp ∧ gp < hi)) ∧ PendsAt W gp op lp ∧ (gs ≠ gp ∨ ls.length = 0 ∨ lp.length = 0)

theorem Own.strs {W : World} {lo hi : Nat} {vs vp : Value} {ls : List ByteArray} {lp : List (Int × ByteArray)} (h : Own W lo hi vs vp ls lp) : Strs W vs ls := by
  obtain ⟨va, cs, vb, cp, gs, os, gp, op, rfl, rfl, h1, h2, h3, h4, h5⟩ := h
  refine ⟨va, cs, rfl, fun j hj => ?_⟩
  rcases h1 with h1 | ⟨h1, _, _⟩
  · omega
  · exact ⟨gs, os, h1, (h2 j hj).1⟩
theorem Own.pends {W : World} {lo hi : Nat} {vs vp : Value} {ls : List ByteArray} {lp : List (Int × ByteArray)} (h : Own W lo hi vs vp ls lp) : Pends W vp lp := by
  obtain ⟨va, cs, vb, cp, gs, os, gp, op, rfl, rfl, h1, h2, h3, h4, h5⟩ := h
  refine ⟨vb, cp, rfl, fun j hj => ?_⟩
  rcases h3 with h3 | ⟨h3, _, _⟩
  · omega
  · exact ⟨gp, op, h3, (h4 j hj).1, (h4 j hj).2.1⟩
theorem Own.only {p : Nat → Prop} {W W' : World} {lo hi : Nat} {vs vp : Value} {ls : List ByteArray} {lp : List (Int × ByteArray)} (h : Own W lo hi vs vp ls lp) (hg : Only p W W') (hn : ∀ k, lo ≤ k → k < hi → ¬ p k) : Own W' lo hi vs vp ls lp := by
  obtain ⟨va, cs, vb, cp, gs, os, gp, op, rfl, rfl, h1, h2, h3, h4, h5⟩ := h
  exact ⟨va, cs, vb, cp, gs, os, gp, op, rfl, rfl, h1, h2.only hg (h1.imp id fun h => hn gs h.2.1 h.2.2), h3, h4.only hg (h3.imp id fun h => hn gp h.2.1 h.2.2), h5⟩
theorem Own.below {W W' : World} {lo hi : Nat} {vs vp : Value} {ls : List ByteArray} {lp : List (Int × ByteArray)} (h : Own W lo hi vs vp ls lp) (hb : Below W.heap.size W W') : Own W' lo hi vs vp ls lp :=
  h.only (Only.of_below (fun _ => False) hb) (fun _ _ _ h => h)
theorem Own.wide {W : World} {lo hi lo' hi' : Nat} {vs vp : Value} {ls : List ByteArray} {lp : List (Int × ByteArray)} (h : Own W lo hi vs vp ls lp) (h1 : lo' ≤ lo) (h2 : hi ≤ hi') : Own W lo' hi' vs vp ls lp := by
  obtain ⟨va, cs, vb, cp, gs, os, gp, op, e1, e2, a1, a2, a3, a4, a5⟩ := h
  exact ⟨va, cs, vb, cp, gs, os, gp, op, e1, e2, a1.imp id (fun h => ⟨h.1, by omega, by omega⟩), a2, a3.imp id (fun h => ⟨h.1, by omega, by omega⟩), a4, a5⟩
theorem Own.shape {W : World} {lo hi : Nat} {vs vp : Value} {ls : List ByteArray} {lp : List (Int × ByteArray)} (h : Own W lo hi vs vp ls lp) : ∃ va cs vb cp, vs = .slice va ls.length cs ∧ vp = .slice vb lp.length cp := by
  obtain ⟨va, cs, vb, cp, gs, os, gp, op, e1, e2, _⟩ := h
  exact ⟨va, cs, vb, cp, e1, e2⟩
theorem Own.setCell {W : World} {lo hi : Nat} {vs vp : Value} {ls : List ByteArray} {lp : List (Int × ByteArray)} (h : Own W lo hi vs vp ls lp) {a : Addr} (ha : a.block < lo ∨ hi ≤ a.block) (v : Value) : Own (W.setCell a v) lo hi vs vp ls lp :=
  h.only (p := fun b => b = a.block) ⟨rfl, rfl, rfl, by simp, fun k _ hk => Below.heap_setCell _ _ _ _ hk⟩ (fun k h1 h2 e => by subst e; omega)
theorem own_zero (W : World) (lo hi : Nat) : Own W lo hi (.slice none 0 0) (.slice none 0 0) [] [] :=
  ⟨none, 0, none, 0, 0, 0, 0, 0, rfl, rfl, .inl rfl, fun j hj => absurd hj (by simp), .inl rfl, fun j hj => absurd hj (by simp), .inr (.inl rfl)⟩
theorem own_mk {W : World} {lo hi gs gp cs cp : Nat} {ls : List ByteArray} {lp : List (Int × ByteArray)} (h1 : StrsAt W gs 0 ls) (h2 : PendsAt W gp 0 lp) (a1 : lo ≤ gs) (a2 : gs < hi) (b1 : lo ≤ gp) (b2 : gp < hi) (hne : gs ≠ gp) :
    Own W lo hi (.slice (some ⟨gs, 0, none⟩) ls.length cs) (.slice (some ⟨gp, 0, none⟩) lp.length cp) ls lp :=
  ⟨_, cs, _, cp, gs, 0, gp, 0, rfl, rfl, .inr ⟨rfl, a1, a2⟩, h1, .inr ⟨rfl, b1, b2⟩, h2, .inl hne⟩
theorem own_mk0 {W : World} {lo hi gs cs : Nat} {ls : List ByteArray} (h1 : StrsAt W gs 0 ls) (a1 : lo ≤ gs) (a2 : gs < hi) :
    Own W lo hi (.slice (some ⟨gs, 0, none⟩) ls.length cs) (.slice none 0 0) ls [] :=
  ⟨_, cs, none, 0, gs, 0, 0, 0, rfl, rfl, .inr ⟨rfl, a1, a2⟩, h1, .inl rfl, fun j hj => absurd hj (by simp), .inr (.inr rfl)⟩

/-! ### marks -/
end Go.Proofs.Ytfpgobkedfhakab.Harn

/- 'append(b, s...)' of a text to bytes of the call's own, and the text of these. -/
namespace Go.Proofs.Ytfpgobkedfhakab.Disk
open Go.RowKit Go.Proofs.Ytfpgobkedfhakab.Mem

theorem infoB : (Try.prog.info? 5).map (fun i => (i.zero, i.size, i.bytes)) = some (some (.int .u8 0), 1, 1) := by kernel_rfl
theorem underB : Try.prog.underlying 52 = some (.slice 5) := by kernel_rfl
theorem underTx : Try.prog.underlying 9 = some .string := by kernel_rfl
theorem underU8 : Try.prog.underlying 5 = some (.int .u8) := by kernel_rfl
theorem ownB_shape {W : World} {base : Nat} {e : TypeId} {v : Value} {l : List UInt8} (h : OwnsB W base e v l) (hv : v ≠ .slice none 0 0) : ∃ g cap, v = .slice (some ⟨g, 0, none⟩) l.length cap ∧ base ≤ g ∧ g < W.heap.size := by
  have hlt := World.ownsRow.lt h
  rcases h.2 with ⟨h0, _⟩ | ⟨g, cap, cur, rfl, _⟩
  · exact absurd h0 hv
  · exact ⟨g, cap, rfl, hlt g rfl⟩
theorem ownB_same {W W' : World} {base B : Nat} {e : TypeId} {v : Value} {l : List UInt8} (h : OwnsB W base e v l) (hb : ∀ g, v.ownBlock = some g → W'.heap[g]? = W.heap[g]?) (hB : B ≤ base) : OwnsB W' B e v l := by
  obtain ⟨h1, h2⟩ := h
  refine ⟨h1, ?_⟩
  rcases h2 with ⟨rfl, h2⟩ | ⟨g, cap, cur, rfl, e2, e3, e4⟩
  · exact .inl ⟨rfl, h2⟩
  · exact .inr ⟨g, cap, cur, rfl, by omega, (hb g rfl).trans e3, e4⟩
theorem ownB_below {W W' : World} {base : Nat} {e : TypeId} {v : Value} {l : List UInt8} (h : OwnsB W base e v l) (hb : Below W.heap.size W W') : OwnsB W' base e v l := ownB_same h (fun g hg => hb.block g (World.ownsRow.lt h g hg).2) (Nat.le_refl _)
/-- 'string(b)' of such a slice. -/
theorem ownB_text {W : World} {base : Nat} {v : Value} {l : List UInt8} (h : OwnsB W base 5 v l) (hv : v ≠ .slice none 0 0) : (convert 52 9 v).run Try.prog W = .ok (.string ⟨l.toArray⟩) W := by
  have hc := fun g hg => World.ownsRow.cells h (g := g) hg
  rcases h.2 with ⟨h0, _⟩ | ⟨g, cap, cur, rfl, _⟩
  · exact absurd h0 hv
  · refine run_convert_bytes_back W 52 9 5 _ cap l underB underU8 underTx ?_
    intro j hj
    refine hc g rfl j _ ?_
    simp [Lib.byteCells, hj]
theorem wp_app_text {w : World} {ops : Array Oper} {rest : List Oper} {o : Oper} {a : Act} {Q : Exit → Act → World → Prop} (hgd : o.guard = none) (sl x : Operand)
    (ho : o.op = .call { callee := .builtin .append, args := #[sl, x], argTypes := #[52, 9] }) (base : Nat) (v : Value) (l : List UInt8) (s : ByteArray) (hs : a.eval sl = v) (hx : a.eval x = .string s)
    (hown : OwnsB w base 5 v l) (hv : v ≠ .slice none 0 0) (hn : l.length + s.size ≤ 1000000) (hbase : base ≤ w.heap.size)
    (h : ∀ v' w', OwnsB w' base 5 v' (l ++ s.data.toList) → v' ≠ .slice none 0 0 → Below base w w' → (∀ k, k < w.heap.size → some k ≠ v.ownBlock → w'.heap[k]? = w.heap[k]?) → w.heap.size ≤ w'.heap.size → wpList Try.prog ops Q rest (a.put o.dst v') w') : wpList Try.prog ops Q (o :: rest) a w := by
  obtain ⟨i, hi, hz0, hz1, hz2⟩ := info_parts infoB
  refine Lib.wpList_append_own_string w hgd sl x _ _ ho base 5 i underB underTx hi hz0 hz1 hz2 v l.length (Lib.byteCells l) hs hown s hx (by unfold maxLen; omega) (by omega) hbase ?_
  intro v' w' h1 h2 h3
  refine h v' w' ?_ (fun e => hv (h3.1 e).1) ?_ (fun k hk hne => h2.block k hk hne) h2.size
  · unfold OwnsB
    have e1 : (l ++ s.data.toList).length = l.length + s.size := by rw [List.length_append]; rfl
    have e2 : Lib.byteCells (l ++ s.data.toList) = Lib.byteCells l ++ Lib.strCells s := by simp [Lib.byteCells, Lib.strCells]
    rw [e1, e2]
    exact h1
  · exact (Below.refl base w).grown h2 hbase (fun k hk => (World.ownsRow.lt hown k hk).1)
/-- A piece of a text. -/
theorem slice_text (tx : ByteArray) (a b : Nat) (ha : a ≤ b) (hb : b ≤ tx.size) (i j : Int) (hi : i = a) (hj : j = b) (W : World) : (Instr.slice 9 (.string tx) (some (.int .i64 i)) (some (.int .i64 j)) none).run Try.prog W = .ok (.string (tx.extract a b)) W := by
  subst hi hj
  simp [Instr.slice, Instr.sliceBounds, run_underlying underTx, go_sem, ha, hb]
end Go.Proofs.Ytfpgobkedfhakab.Disk

/- What the laws' own functions on lists of files answer. -/
namespace Go.Proofs.Ytfpgobkedfhakab.Tre
open Go.RowKit Go.Proofs.Ytfpgobkedfhakab.Mem Go.Proofs.Ytfpgobkedfhakab.Mark Go.Proofs.Ytfpgobkedfhakab.Harn

def Fl.val (f : Fl) : Value := .agg #[.string f.p, .int .i64 f.m, .string f.d]
def Fl.zero : Fl := ⟨ByteArray.empty, 0, ByteArray.empty⟩
/-- The files l lie in block g from place o on. -/
def FilesIn (W : World) (g o : Nat) (l : List Fl) : Prop := ∀ j (h : j < l.length), W.cell? ⟨g, o + j * 3, none⟩ = some (.string l[j].p) ∧ W.cell? ⟨g, o + j * 3 + 1, none⟩ = some (.int .i64 l[j].m) ∧ W.cell? ⟨g, o + j * 3 + 2, none⟩ = some (.string l[j].d)
/-- The slice v reads as the files l. -/
def Files (W : World) (v : Value) (l : List Fl) : Prop :=
  ∃ a cap, v = .slice a l.length cap ∧ ∀ j (h : j < l.length), ∃ b o, a = some ⟨b, o, none⟩ ∧ W.cell? ⟨b, o + j * 3, none⟩ = some (.string l[j].p) ∧ W.cell? ⟨b, o + j * 3 + 1, none⟩ = some (.int .i64 l[j].m) ∧ W.cell? ⟨b, o + j * 3 + 2, none⟩ = some (.string l[j].d)
theorem Files.below {W W' : World} {v : Value} {l : List Fl} (h : Files W v l) (hb : Below W.heap.size W W') : Files W' v l := by
  obtain ⟨a, cap, hv, hc⟩ := h
  refine ⟨a, cap, hv, fun j hj => ?_⟩
  obtain ⟨b, o, ha, h1, h2, h3⟩ := hc j hj
  refine ⟨b, o, ha, ?_, ?_, ?_⟩
  · rw [hb.cell (World.block_lt_of_cell? W _ h1)]; exact h1
  · rw [hb.cell (World.block_lt_of_cell? W _ h2)]; exact h2
  · rw [hb.cell (World.block_lt_of_cell? W _ h3)]; exact h3
/-- The files l lie in block g from place o on, and may be written. -/
def FilesAt (W : World) (g o : Nat) (l : List Fl) : Prop := ∀ j (h : j < l.length), (W.cell? ⟨g, o + j * 3, none⟩ = some (.string l[j].p) ∧ W.cell? ⟨g, o + j * 3 + 1, none⟩ = some (.int .i64 l[j].m) ∧ W.cell? ⟨g, o + j * 3 + 2, none⟩ = some (.string l[j].d)) ∧ W.frozen? ⟨g, o + j * 3, none⟩ = false ∧ W.frozen? ⟨g, o + j * 3 + 1, none⟩ = false ∧ W.frozen? ⟨g, o + j * 3 + 2, none⟩ = false
theorem FilesAt.files {W : World} {g o : Nat} {l : List Fl} (h : FilesAt W g o l) (c : Nat) : Files W (.slice (some ⟨g, o, none⟩) l.length c) l :=
  ⟨_, c, rfl, fun j hj => ⟨g, o, rfl, (h j hj).1⟩⟩
theorem FilesAt.below {W W' : World} {g o : Nat} {l : List Fl} (h : FilesAt W g o l) (hb : Below W.heap.size W W') : FilesAt W' g o l := fun j hj => by
  obtain ⟨⟨h1, h2, h3⟩, h4, h5, h6⟩ := h j hj
  have l1 := World.block_lt_of_cell? W _ h1
  have l2 := World.block_lt_of_cell? W _ h2
  have l3 := World.block_lt_of_cell? W _ h3
  exact ⟨⟨(hb.cell l1).trans h1, (hb.cell l2).trans h2, (hb.cell l3).trans h3⟩, (hb.frozen l1).trans h4, (hb.frozen l2).trans h5, (hb.frozen l3).trans h6⟩
theorem fst_ne {g a b : Nat} (h : a ≠ b) : (⟨g, a, none⟩ : Addr) ≠ ⟨g, b, none⟩ := fun e => by injection e with _ e2 _; exact h e2
theorem FilesAt.set0 {W : World} {g o i : Nat} {l : List Fl} (h : FilesAt W g o l) (hi : i < l.length) (x : ByteArray) : FilesAt (W.setCell ⟨g, o + i * 3, none⟩ (.string x)) g o (l.set i ⟨x, l[i].m, l[i].d⟩) := fun j hj => by
  have hj2 : j < l.length := by simpa using hj
  obtain ⟨⟨h1, h2, h3⟩, h4, h5, h6⟩ := h j hj2
  obtain ⟨⟨k1, k2, k3⟩, _⟩ := h i hi
  refine ⟨⟨?_, ?_, ?_⟩, by simpa using h4, by simpa using h5, by simpa using h6⟩
  · by_cases e : i = j
    · subst e; rw [List.getElem_set_self]; exact World.cell?_setCell_same _ _ _ k1
    · rw [List.getElem_set_ne e, World.cell?_setCell_other _ _ _ _ (fst_ne (by omega))]; exact h1
  · rw [World.cell?_setCell_other _ _ _ _ (fst_ne (by omega))]
    by_cases e : i = j
    · subst e; rw [List.getElem_set_self]; exact h2
    · rw [List.getElem_set_ne e]; exact h2
  · rw [World.cell?_setCell_other _ _ _ _ (fst_ne (by omega))]
    by_cases e : i = j
    · subst e; rw [List.getElem_set_self]; exact h3
    · rw [List.getElem_set_ne e]; exact h3
theorem FilesAt.set1 {W : World} {g o i : Nat} {l : List Fl} (h : FilesAt W g o l) (hi : i < l.length) (x : Int) : FilesAt (W.setCell ⟨g, o + i * 3 + 1, none⟩ (.int .i64 x)) g o (l.set i ⟨l[i].p, x, l[i].d⟩) := fun j hj => by
  have hj2 : j < l.length := by simpa using hj
  obtain ⟨⟨h1, h2, h3⟩, h4, h5, h6⟩ := h j hj2
  obtain ⟨⟨k1, k2, k3⟩, _⟩ := h i hi
  refine ⟨⟨?_, ?_, ?_⟩, by simpa using h4, by simpa using h5, by simpa using h6⟩
  · rw [World.cell?_setCell_other _ _ _ _ (fst_ne (by omega))]
    by_cases e : i = j
    · subst e; rw [List.getElem_set_self]; exact h1
    · rw [List.getElem_set_ne e]; exact h1
  · by_cases e : i = j
    · subst e; rw [List.getElem_set_self]; exact World.cell?_setCell_same _ _ _ k2
    · rw [List.getElem_set_ne e, World.cell?_setCell_other _ _ _ _ (fst_ne (by omega))]; exact h2
  · rw [World.cell?_setCell_other _ _ _ _ (fst_ne (by omega))]
    by_cases e : i = j
    · subst e; rw [List.getElem_set_self]; exact h3
    · rw [List.getElem_set_ne e]; exact h3
theorem FilesAt.set2 {W : World} {g o i : Nat} {l : List Fl} (h : FilesAt W g o l) (hi : i < l.length) (x : ByteArray) : FilesAt (W.setCell ⟨g, o + i * 3 + 2, none⟩ (.string x)) g o (l.set i ⟨l[i].p, l[i].m, x⟩) := fun j hj => by
  have hj2 : j < l.length := by simpa using hj
  obtain ⟨⟨h1, h2, h3⟩, h4, h5, h6⟩ := h j hj2
  obtain ⟨⟨k1, k2, k3⟩, _⟩ := h i hi
  refine ⟨⟨?_, ?_, ?_⟩, by simpa using h4, by simpa using h5, by simpa using h6⟩
  · rw [World.cell?_setCell_other _ _ _ _ (fst_ne (by omega))]
    by_cases e : i = j
    · subst e; rw [List.getElem_set_self]; exact h1
    · rw [List.getElem_set_ne e]; exact h1
  · rw [World.cell?_setCell_other _ _ _ _ (fst_ne (by omega))]
    by_cases e : i = j
    · subst e; rw [List.getElem_set_self]; exact h2
    · rw [List.getElem_set_ne e]; exact h2
  · by_cases e : i = j
    · subst e; rw [List.getElem_set_self]; exact World.cell?_setCell_same _ _ _ k3
    · rw [List.getElem_set_ne e, World.cell?_setCell_other _ _ _ _ (fst_ne (by omega))]; exact h3
theorem FilesAt.set {W : World} {g o i : Nat} {l : List Fl} (h : FilesAt W g o l) (hi : i < l.length) (f : Fl) : FilesAt (((W.setCell ⟨g, o + i * 3, none⟩ (.string f.p)).setCell ⟨g, o + i * 3 + 1, none⟩ (.int .i64 f.m)).setCell ⟨g, o + i * 3 + 2, none⟩ (.string f.d)) g o (l.set i f) := by
  have h1 := h.set0 hi f.p
  have h2 := h1.set1 (i := i) (by simpa using hi) f.m
  have h3 := h2.set2 (i := i) (by simpa using hi) f.d
  simpa using h3

end Go.Proofs.Ytfpgobkedfhakab.Tre

/- Lists of files and trees, compared, copied, sized, marked and held by the laws' own functions. -/
namespace Go.Proofs.Ytfpgobkedfhakab.Tre
open Go.RowKit Go.Proofs.Ytfpgobkedfhakab.Mem Go.Proofs.Ytfpgobkedfhakab.Mark Go.Proofs.Ytfpgobkedfhakab.Harn

def RC (W : World) (a : Option Addr) (l : List Fl) : Prop := ∀ j (h : j < l.length), ∃ b o, a = some ⟨b, o, none⟩ ∧ W.cell? ⟨b, o + j * 3, none⟩ = some (.string l[j].p) ∧ W.cell? ⟨b, o + j * 3 + 1, none⟩ = some (.int .i64 l[j].m) ∧ W.cell? ⟨b, o + j * 3 + 2, none⟩ = some (.string l[j].d)

theorem infoFile : (Try.prog.info? 70).map (fun i => (i.zero, i.size, i.bytes)) = some (some (.agg #[.string ByteArray.empty, .int .i64 0, .string ByteArray.empty]), 3, 40) := by kernel_rfl
/-- A list of files of which the first k are laid. -/
def fcopy (l : List Fl) (k : Nat) : List Fl := l.take k ++ List.replicate (l.length - k) Fl.zero
theorem length_fcopy (l : List Fl) (k : Nat) (h : k ≤ l.length) : (fcopy l k).length = l.length := by simp [fcopy]; omega
theorem fcopy_start (l : List Fl) : fcopy l 0 = List.replicate l.length Fl.zero := by simp [fcopy]
theorem fcopy_end (l : List Fl) : fcopy l l.length = l := by simp [fcopy]
theorem fcopy_set (l : List Fl) (k : Nat) (hk : k < l.length) : (fcopy l k).set k l[k] = fcopy l (k + 1) := by
  have hl : (l.take k).length = k := by simp; omega
  unfold fcopy
  rw [List.set_append_right _ _ (by omega), hl, Nat.sub_self, show l.length - k = (l.length - (k + 1)) + 1 by omega, List.replicate_succ, List.set_cons_zero, List.take_succ_eq_append_getElem hk]
  simp only [List.append_assoc, List.singleton_append]

/-- how many bytes the files hold -/
def wtF (l : List Fl) : Nat := (l.map fun f => f.p.size + f.d.size).sum
theorem wtF_take (l : List Fl) (k : Nat) (h : k < l.length) : wtF (l.take (k + 1)) = wtF (l.take k) + (l[k].p.size + l[k].d.size) := by
  unfold wtF; rw [List.take_succ_eq_append_getElem h, List.map_append, List.sum_append]; simp only [List.map_cons, List.map_nil, List.sum_cons, List.sum_nil, Nat.add_zero]
theorem wtF_le (l : List Fl) (k : Nat) : wtF (l.take k) ≤ wtF l := by
  have e : wtF l = wtF (l.take k) + wtF (l.drop k) := by
    unfold wtF
    rw [← List.sum_append, ← List.map_append, List.take_append_drop]
  omega
end Go.Proofs.Ytfpgobkedfhakab.Tre

/- Trees, copied, compared, sized by the laws' own functions. -/
namespace Go.Proofs.Ytfpgobkedfhakab.Tre
open Go.RowKit Go.Proofs.Ytfpgobkedfhakab.Mem Go.Proofs.Ytfpgobkedfhakab.Mark Go.Proofs.Ytfpgobkedfhakab.Harn

theorem hidH {p : Prop} (h : p) : Hid p := h
theorem FilesAt.lt {W : World} {g o : Nat} {l : List Fl} (h : FilesAt W g o l) (h0 : 0 < l.length) : g < W.heap.size := World.block_lt_of_cell? W _ (h 0 h0).1.1
theorem FilesAt.other {W : World} {g o : Nat} {l : List Fl} (h : FilesAt W g o l) (a : Addr) (v : Value) (hg : g ≠ a.block) : FilesAt (W.setCell a v) g o l := fun j hj => by
  obtain ⟨⟨h1, h2, h3⟩, h4, h5, h6⟩ := h j hj
  have ne : ∀ q, a ≠ (⟨g, q, none⟩ : Addr) := fun q e => hg (by rw [e])
  refine ⟨⟨?_, ?_, ?_⟩, by simpa using h4, by simpa using h5, by simpa using h6⟩
  · rw [World.cell?_setCell_other _ _ _ _ (ne _)]; exact h1
  · rw [World.cell?_setCell_other _ _ _ _ (ne _)]; exact h2
  · rw [World.cell?_setCell_other _ _ _ _ (ne _)]; exact h3
end Go.Proofs.Ytfpgobkedfhakab.Tre
