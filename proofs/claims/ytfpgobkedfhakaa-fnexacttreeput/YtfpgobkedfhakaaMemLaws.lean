/- Laws on rows of bytes that a call makes: made, copied into, read as a text. -/
import Derived.WalkKit
import Derived.Below
import Derived.Deep.OwnRows
import Derived.Lib.BufferWrite
import Derived.Laws.CopyOwn
import Derived.Laws.IdiomStrings
namespace Go.Proofs.Ytfpgobkedfhakaa.Mem
open Go.RowKit

/-- Block g is a row of these cells. -/
def HasRow (W : World) (g : Nat) (cs : List Value) (e : TypeId) : Prop := W.heap[g]? = some (.cells cs.toArray e (0, 0))

theorem bstep {w a b : World} (h : Below w.heap.size w a) (k : Below a.heap.size a b) : Below w.heap.size w b := h.trans (k.mono h.size)
theorem balloc {w a : World} (h : Below w.heap.size w a) (o : Obj) : Below w.heap.size w (a.alloc o) := h.alloc h.size o

theorem bytes_data (s : ByteArray) : s.data.toList.length = s.size := rfl

theorem make_bytes {P : Program} (t e : TypeId) (ht : P.underlying t = some (.slice e)) (hinfo : (P.info? e).map (fun i => (i.zero, i.size, i.bytes)) = some (some (.int .u8 0), 1, 1))
    (n : Nat) (hn : n ≤ 1000000000) (w : World) :
    ∃ W1, (Instr.makeSlice t (.int .i64 (n : Int)) (.int .i64 (n : Int))).run P w = .ok (.slice (some ⟨w.heap.size, 0, none⟩) n n) W1 ∧ HasRow W1 w.heap.size (List.replicate n (.int .u8 0)) e ∧ Below w.heap.size w W1 ∧ W1.heap.size = w.heap.size + 1 := by
  refine ⟨_, run_make_row' (P := P) t e (.int .u8 0) 1 ht hinfo rfl .i64 .i64 n (by omega) (by omega) w, ?_, (Below.refl _ _).alloc (Nat.le_refl _) _, by simp⟩
  unfold HasRow
  rw [← toList_madeCells_one]
  show (w.heap.push _)[w.heap.size]? = _
  simp

theorem copy_str {P : Program} (dT sT ty elem : TypeId) (hu : P.underlying dT = some (.slice elem)) (hinfo : (P.info? elem).map (fun i => (i.zero, i.size, i.bytes)) = some (some (.int .u8 0), 1, 1))
    (W : World) (g o dLen dCap : Nat) (s : ByteArray) (cur : List Value) (hg : HasRow W g cur elem) (hle : s.size ≤ dLen) (hfit : o + s.size ≤ cur.length) :
    ∃ W', (Builtin.copy_ #[dT, sT] ty #[.slice (some ⟨g, o, none⟩) dLen dCap, .string s]).run P W = .ok (goInt s.size) W' ∧ HasRow W' g (cur.take o ++ Lib.byteCells s.data.toList ++ cur.drop (o + s.size)) elem ∧ Below g W W' ∧ W'.heap.size = W.heap.size := by
  have hs : (P.info? elem).map (·.size) = some 1 := by
    obtain ⟨i, hi, hzz⟩ := Option.map_eq_some_iff.1 hinfo
    simp only [Prod.mk.injEq] at hzz
    simp [hi, hzz.2.1]
  refine ⟨_, Lib.run_copy_row_string W dT sT ty elem g o dLen dCap s cur.toArray elem hu hs hg hle (by simpa using hfit), ?_, below_setRow (Below.refl _ _) (Nat.le_refl _) _, by simp [World.setRow]⟩
  have := setRow_heap W g _ (List.take o cur.toArray.toList ++ Lib.byteCells s.data.toList ++ List.drop (o + s.size) cur.toArray.toList).toArray elem _ hg
  unfold HasRow
  simpa using this

theorem copy_empty {P : Program} (dT sT ty elem : TypeId) (hu : P.underlying dT = some (.slice elem)) (hinfo : (P.info? elem).map (fun i => (i.zero, i.size, i.bytes)) = some (some (.int .u8 0), 1, 1))
    (W : World) (d : Option Addr) (dLen dCap : Nat) :
    (Builtin.copy_ #[dT, sT] ty #[.slice d dLen dCap, .string ByteArray.empty]).run P W = .ok (goInt 0) W := by
  obtain ⟨i, hi, hzz⟩ := Option.map_eq_some_iff.1 hinfo
  exact Lib.run_copy_empty_string W dT sT ty elem d dLen dCap ByteArray.empty hu (by simp [hi]) rfl

theorem cell_of_row {W : World} {g : Nat} {cs : List Value} {e : TypeId} (h : HasRow W g cs e) (j : Nat) : W.cell? ⟨g, j, none⟩ = cs[j]? := by
  unfold HasRow at h
  unfold World.cell?
  rw [h]
  simp

theorem frozen_of_row {W : World} {g : Nat} {cs : List Value} {e : TypeId} (h : HasRow W g cs e) (j : Nat) : W.frozen? ⟨g, j, none⟩ = false := by
  unfold HasRow at h
  unfold World.frozen?
  rw [h]
  simp

theorem row_set {W : World} {g : Nat} {cs : List Value} {e : TypeId} (h : HasRow W g cs e) (k : Nat) (v : Value) : HasRow (W.setCell ⟨g, k, none⟩ v) g (cs.set k v) e := by
  unfold HasRow at h ⊢
  simp only [World.setCell, Array.getElem?_modify, h]
  simp

/-- 'string(b)', b the first cells of a row of bytes. -/
theorem text_of_row {P : Program} (src dst e : TypeId) (hs : P.underlying src = some (.slice e)) (he : P.underlying e = some (.int .u8)) (hd : P.underlying dst = some .string)
    (W : World) (g cap n : Nat) (l : List UInt8) (rest : List Value) (hn : l.length = n) {T : TypeId} (hg : HasRow W g (Lib.byteCells l ++ rest) T) :
    (convert src dst (.slice (some ⟨g, 0, none⟩) n cap)).run P W = .ok (.string ⟨l.toArray⟩) W := by
  subst hn
  refine run_convert_bytes_back W src dst e _ cap l hs he hd ?_
  intro j hj
  have := cell_of_row hg j
  have ha : (⟨g, 0, none⟩ : Addr).add j = ⟨g, j, none⟩ := by unfold Addr.add; split <;> simp_all
  rw [ha, this]
  simp [Lib.byteCells, List.getElem?_append, hj]

theorem append_eq (a b : ByteArray) : (⟨(a.data.toList ++ b.data.toList).toArray⟩ : ByteArray) = a ++ b := by
  apply ByteArray.ext
  simp
end Go.Proofs.Ytfpgobkedfhakaa.Mem
