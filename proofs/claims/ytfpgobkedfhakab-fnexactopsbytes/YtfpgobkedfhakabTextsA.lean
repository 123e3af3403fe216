/- Laws that the proof rests on, put together: The texts that mark a place, as a function of their number. Laws on rows of bytes that a call makes: made, copied into, read as a text. Whole arrays out of and into a row. Rows behind new blocks, stores elsewhere, draws and calls. A drawn region in which calls come ahead of operations that their guard passes over: the walk is cut behind the last call, and what is left goes step by step. Paths, files and trees, and when they are right: lists alone. Laws on a slice of bytes that the call itself appends to. The bytes of a number, as a function of numbers. The CRC of chapter 2 as a function of numbers, and its bounds. -/
import Derived.WalkKit
import Derived.Below
import Derived.Deep.OwnRows
import Derived.Lib.BufferWrite
import Derived.Laws.CopyOwn
import Derived.Laws.IdiomStrings
import Derived.Deep.WholeRow
import Derived.Deep.Draws
import Derived.Deep.RegionHeld3
import Derived.Laws.BitsAllLaws
/- The texts that mark a place, as a function of their number. -/
namespace Go.Proofs.Ytfpgobkedfhakab.Mark

/-- The digits of a number ahead of what stands. -/
def digs (k : Nat) (acc : List UInt8) : List UInt8 := if h : k = 0 then acc else digs (k / 10) (UInt8.ofNat (48 + k % 10) :: acc)
termination_by k
decreasing_by omega

theorem digs_zero (acc : List UInt8) : digs 0 acc = acc := by rw [digs]; simp
theorem digs_pos {k : Nat} (h : 0 < k) (acc : List UInt8) : digs k acc = digs (k / 10) (UInt8.ofNat (48 + k % 10) :: acc) := by rw [digs]; simp; intro h2; omega

def markB (k : Nat) : ByteArray := if k = 0 then ⟨#[109, 48]⟩ else ⟨(109 :: digs k []).toArray⟩
def marks (k n : Nat) : List ByteArray := (List.range n).map fun i => markB (k + i)
theorem length_marks (k n : Nat) : (marks k n).length = n := by simp [marks]
end Go.Proofs.Ytfpgobkedfhakab.Mark

/- Laws on rows of bytes that a call makes: made, copied into, read as a text. -/
namespace Go.Proofs.Ytfpgobkedfhakab.Mem
open Go.RowKit

/-- Block g is a row of these cells. -/
def HasRow (W : World) (g : Nat) (cs : List Value) (e : TypeId) : Prop := W.heap[g]? = some (.cells cs.toArray e (0, 0))

theorem bstep {w a b : World} (h : Below w.heap.size w a) (k : Below a.heap.size a b) : Below w.heap.size w b := h.trans (k.mono h.size)
theorem balloc {w a : World} (h : Below w.heap.size w a) (o : Obj) : Below w.heap.size w (a.alloc o) := h.alloc h.size o

theorem bytes_data (s : ByteArray) : s.data.toList.length = s.size := rfl

theorem make_bytes {P : Program} (t e : TypeId) (ht : P.underlying t = some (.slice e)) (hinfo : (P.info? e).map (fun i => (i.zero, i.size, i.bytes)) = some (some (.int .u8 0), 1, 1))
    (n : Nat) (hn : n ≤ 1000000000) (w : World) :
    ∃ W1, (Instr.makeSlice t (.int .i64 (n : Int)) (.int .i64 (n : Int))).run P w = .ok (.slice (some ⟨w.heap.size, 0, none⟩) n n) W1 ∧ HasRow W1 w.heap.size (List.replicate n (.int .u8 0)) e ∧ Below w.heap.size w W1 ∧ W1.heap.size = w.heap.size + 1 := by
  refine ⟨_, run_make_row' (P := P) t e (.int .u8 0) 1 ht hinfo rfl .i64 .i64 n (by omega) (by omega) w, ?_, (Below.refl _ _).alloc (Nat.le_refl _) _, by simp⟩
  unfold HasRow
  rw [← toList_madeCells_one]
  show (w.heap.push _)[w.heap.size]? = _
  simp

theorem copy_str {P : Program} (dT sT ty elem : TypeId) (hu : P.underlying dT = some (.slice elem)) (hinfo : (P.info? elem).map (fun i => (i.zero, i.size, i.bytes)) = some (some (.int .u8 0), 1, 1))
    (W : World) (g o dLen dCap : Nat) (s : ByteArray) (cur : List Value) (hg : HasRow W g cur elem) (hle : s.size ≤ dLen) (hfit : o + s.size ≤ cur.length) :
    ∃ W', (Builtin.copy_ #[dT, sT] ty #[.slice (some ⟨g, o, none⟩) dLen dCap, .string s]).run P W = .ok (goInt s.size) W' ∧ HasRow W' g (cur.take o ++ Lib.byteCells s.data.toList ++ cur.drop (o + s.size)) elem ∧ Below g W W' ∧ W'.heap.size = W.heap.size := by
  have hs : (P.info? elem).map (·.size) = some 1 := by
    obtain ⟨i, hi, hzz⟩ := Option.map_eq_some_iff.1 hinfo
    simp only [Prod.mk.injEq] at hzz
    simp [hi, hzz.2.1]
  refine ⟨_, Lib.run_copy_row_string W dT sT ty elem g o dLen dCap s cur.toArray elem hu hs hg hle (by simpa using hfit), ?_, below_setRow (Below.refl _ _) (Nat.le_refl _) _, by simp [World.setRow]⟩
  have := setRow_heap W g _ (List.take o cur.toArray.toList ++ Lib.byteCells s.data.toList ++ List.drop (o + s.size) cur.toArray.toList).toArray elem _ hg
  unfold HasRow
  simpa using this

theorem copy_empty {P : Program} (dT sT ty elem : TypeId) (hu : P.underlying dT = some (.slice elem)) (hinfo : (P.info? elem).map (fun i => (i.zero, i.size, i.bytes)) = some (some (.int .u8 0), 1, 1))
    (W : World) (d : Option Addr) (dLen dCap : Nat) :
    (Builtin.copy_ #[dT, sT] ty #[.slice d dLen dCap, .string ByteArray.empty]).run P W = .ok (goInt 0) W := by
  obtain ⟨i, hi, hzz⟩ := Option.map_eq_some_iff.1 hinfo
  exact Lib.run_copy_empty_string W dT sT ty elem d dLen dCap ByteArray.empty hu (by simp [hi]) rfl

theorem cell_of_row {W : World} {g : Nat} {cs : List Value} {e : TypeId} (h : HasRow W g cs e) (j : Nat) : W.cell? ⟨g, j, none⟩ = cs[j]? := by
  unfold HasRow at h
  unfold World.cell?
  rw [h]
  simp

theorem frozen_of_row {W : World} {g : Nat} {cs : List Value} {e : TypeId} (h : HasRow W g cs e) (j : Nat) : W.frozen? ⟨g, j, none⟩ = false := by
  unfold HasRow at h
  unfold World.frozen?
  rw [h]
  simp

theorem row_set {W : World} {g : Nat} {cs : List Value} {e : TypeId} (h : HasRow W g cs e) (k : Nat) (v : Value) : HasRow (W.setCell ⟨g, k, none⟩ v) g (cs.set k v) e := by
  unfold HasRow at h ⊢
  simp only [World.setCell, Array.getElem?_modify, h]
  simp

/-- 'string(b)', b the first cells of a row of bytes. -/
theorem text_of_row {P : Program} (src dst e : TypeId) (hs : P.underlying src = some (.slice e)) (he : P.underlying e = some (.int .u8)) (hd : P.underlying dst = some .string)
    (W : World) (g cap n : Nat) (l : List UInt8) (rest : List Value) (hn : l.length = n) {T : TypeId} (hg : HasRow W g (Lib.byteCells l ++ rest) T) :
    (convert src dst (.slice (some ⟨g, 0, none⟩) n cap)).run P W = .ok (.string ⟨l.toArray⟩) W := by
  subst hn
  refine run_convert_bytes_back W src dst e _ cap l hs he hd ?_
  intro j hj
  have := cell_of_row hg j
  have ha : (⟨g, 0, none⟩ : Addr).add j = ⟨g, j, none⟩ := by unfold Addr.add; split <;> simp_all
  rw [ha, this]
  simp [Lib.byteCells, List.getElem?_append, hj]

theorem append_eq (a b : ByteArray) : (⟨(a.data.toList ++ b.data.toList).toArray⟩ : ByteArray) = a ++ b := by
  apply ByteArray.ext
  simp
end Go.Proofs.Ytfpgobkedfhakab.Mem

/- Whole arrays out of and into a row. -/
namespace Go.Proofs.Ytfpgobkedfhakab.Mem
open Go.RowKit

theorem load_row {P : Program} {W : World} {g : Nat} {cs : List Value} {T : TypeId} {n : Nat} {e : TypeId} (h : HasRow W g cs T) (hu : P.underlying T = some (.array n e)) (hi : (P.info? T).map (·.size) = some cs.length) :
    (loadVar T ⟨g, 0, none⟩).run P W = .ok (.agg cs.toArray) W :=
  run_loadVar_row _ _ T T cs.toArray (0, 0) _ h hu rfl (by simpa using hi)
theorem loadAt_row {P : Program} {W : World} {g : Nat} {cs : List Value} {T : TypeId} {n : Nat} {e : TypeId} (h : HasRow W g cs T) (hu : P.underlying T = some (.array n e)) (hi : (P.info? T).map (·.size) = some cs.length) :
    (Instr.loadAt T (.pointer (some ⟨g, 0, none⟩))).run P W = .ok (.agg cs.toArray) W := by
  simp only [Instr.loadAt, Instr.sureAddr, Sem.run_bind, Sem.run_pure, Result.andThen]
  exact load_row h hu hi
theorem store_row {P : Program} {W : World} {g : Nat} {cs cs' : List Value} {T : TypeId} (h : HasRow W g cs T) (hi : (P.info? T).map (·.size) = some cs'.length) (ho : cs.length = cs'.length) (h1 : ∀ v ∈ cs', v.oneCell' = true) :
    ∃ W', (Instr.storeAt T (.pointer (some ⟨g, 0, none⟩)) (.agg cs'.toArray)).run P W = .ok () W' ∧ HasRow W' g cs' T ∧ (∀ k, k ≠ g → W'.heap[k]? = W.heap[k]?) ∧ (∀ B w, B ≤ g → Below B w W → Below B w W') ∧ W'.heap.size = W.heap.size := by
  have hs := run_storeVar_row (P := P) W g T T cs.toArray cs'.toArray h (by simpa using hi) (by simpa using ho) (Array.all_eq_true_iff_forall_mem.2 (fun v hv => h1 v (by simpa using hv)))
  refine ⟨W.setRow g cs'.toArray, ?_, ?_, ?_, ?_, by simp [World.setRow]⟩
  · simp only [Instr.storeAt, Instr.sureAddr, Sem.run_bind, Sem.run_pure, Result.andThen]
    exact hs
  · exact setRow_heap W g _ cs'.toArray T _ h
  · intro k hk
    simp [World.setRow, Array.getElem?_modify, Ne.symm hk]
  · intro B w hB hb
    exact below_setRow hb hB _

theorem row_load_wp {P : Program} {ops : Array Oper} {rest : List Oper} {op : Oper} {a : Act} {w : World} {Q : Exit → Act → World → Prop} (hgd : op.guard = none) (ty : TypeId) (x : Operand) (ho : op.op = .load ty x)
    (g : Nat) (hx : a.eval x = .pointer (some ⟨g, 0, none⟩)) {cs : List Value} {n : Nat} {e : TypeId} (hr : HasRow w g cs ty) (hu : P.underlying ty = some (.array n e)) (hi : (P.info? ty).map (·.size) = some cs.length)
    (h : wpList P ops Q rest (a.put op.dst (.agg cs.toArray)) w) : wpList P ops Q (op :: rest) a w :=
  wpList_plain hgd fun _ hK => by
    unfold Oper.wp execOp
    simp only [ho, hx, Instr.loadAt, Instr.sureAddr, Sem.run_bind, Sem.run_pure, Result.andThen_ok, load_row hr hu hi]
    exact hK _ _ h
theorem row_store_wp {P : Program} {ops : Array Oper} {rest : List Oper} {op : Oper} {a : Act} {w : World} {Q : Exit → Act → World → Prop} (hgd : op.guard = none) (ty : TypeId) (x y : Operand) (ho : op.op = .store ty x y)
    (g : Nat) (hx : a.eval x = .pointer (some ⟨g, 0, none⟩)) {cs cs' : List Value} (hy : a.eval y = .agg cs'.toArray) (hr : HasRow w g cs ty) (hi : (P.info? ty).map (·.size) = some cs'.length) (ho2 : cs.length = cs'.length) (h1 : ∀ v ∈ cs', v.oneCell' = true)
    (h : ∀ W', HasRow W' g cs' ty → (∀ k, k ≠ g → W'.heap[k]? = w.heap[k]?) → (∀ B u, B ≤ g → Below B u w → Below B u W') → W'.heap.size = w.heap.size → wpList P ops Q rest (a.put op.dst undef) W') : wpList P ops Q (op :: rest) a w := by
  obtain ⟨W', hst, h2, h3, h4, h5⟩ := store_row (P := P) hr hi ho2 h1
  refine wpList_plain hgd fun _ hK => ?_
  unfold Oper.wp execOp
  simp only [ho, hx, hy, hst, Sem.run_bind, Result.andThen_ok]
  exact hK _ _ (h W' h2 h3 h4 h5)

/-- A result that lies in a variable. -/
theorem results_cell {P : Program} {fn : Func} {tmps : Array Value} {w : World} {v : Value} {a : Nat} {t : TypeId} {p : Addr} (hf : fn.results = #[.cell a t]) (ha : tmps.getD a undef = .pointer (some p)) (hl : (loadVar t p).run P w = .ok v w) :
    (results fn tmps).run P w = .ok v w := by
  unfold results
  rw [hf]
  have ha2 : tmps[a]?.getD undef = .pointer (some p) := by simpa [Array.getD_eq_getD_getElem?] using ha
  simp [ha2, hl, asAddr]
end Go.Proofs.Ytfpgobkedfhakab.Mem

/- Rows behind new blocks, stores elsewhere, draws and calls. -/
namespace Go.Proofs.Ytfpgobkedfhakab.Sha
open Go.RowKit Go.Proofs.Ytfpgobkedfhakab.Mem

theorem bel_cell {w wr : World} (h : Below w.heap.size w wr) {p : Addr} {v : Value} (hc : w.cell? p = some v) : wr.cell? p = some v := by
  rw [h.cell (World.block_lt_of_cell? w p hc)]; exact hc

theorem bel_drewN {B : Nat} {a w : World} (h : Below B a w) (n : Nat) : Below B a (w.drewN n) := ⟨h.os, h.tape, h.output, h.size, h.block⟩

theorem row_new (w : World) (cs : List Value) (e : TypeId) : HasRow (w.alloc (.cells cs.toArray e)) w.heap.size cs e := by
  show (w.heap.push _)[w.heap.size]? = _
  simp
theorem row_new_at (w : World) (cs : List Value) (e : TypeId) (g : Nat) (hg : g = w.heap.size) : HasRow (w.alloc (.cells cs.toArray e)) g cs e := by subst hg; exact row_new w cs e
theorem row_alloc {w : World} {g : Nat} {cs : List Value} {e : TypeId} (h : HasRow w g cs e) (o : Obj) : HasRow (w.alloc o) g cs e := by
  unfold HasRow at h ⊢
  obtain ⟨hl, _⟩ := Array.getElem?_eq_some_iff.1 h
  rw [Below.heap_alloc w o g hl]
  exact h
theorem row_other {w : World} {g : Nat} {cs : List Value} {e : TypeId} (h : HasRow w g cs e) (a : Addr) (v : Value) (hg : g ≠ a.block) : HasRow (w.setCell a v) g cs e := by
  unfold HasRow at h ⊢
  rw [Below.heap_setCell w a v g hg]
  exact h
theorem row_drew {w : World} {g : Nat} {cs : List Value} {e : TypeId} (h : HasRow w g cs e) : HasRow w.drew g cs e := h
theorem row_drewN {w : World} {g : Nat} {cs : List Value} {e : TypeId} (h : HasRow w g cs e) (n : Nat) : HasRow (w.drewN n) g cs e := h

theorem row_far {W W' : World} {g k : Nat} {cs : List Value} {e : TypeId} (h : HasRow W k cs e) (hoth : ∀ k, k ≠ g → W'.heap[k]? = W.heap[k]?) (hk : k ≠ g) : HasRow W' k cs e := by
  unfold HasRow at h ⊢
  rw [hoth k hk]; exact h
theorem row_below {W W' : World} {B k : Nat} {cs : List Value} {e : TypeId} (h : HasRow W k cs e) (hb : Below B W W') (hk : k < B) : HasRow W' k cs e := by
  unfold HasRow at h ⊢
  rw [hb.block k hk]; exact h
end Go.Proofs.Ytfpgobkedfhakab.Sha

/- A drawn region in which calls come ahead of operations that their guard passes over: the walk is cut behind the last call, and what is left goes step by step. -/
namespace Go.Proofs.Ytfpgobkedfhakab.CutCall
open Go Go.RowKit

/-- The way back into the region, cut. -/
def Cut (p : Prop) : Prop := p
theorem Cut.out {p : Prop} (h : Cut p) : p := h
theorem shut_cut {P : Program} {ops : Array Oper} {Q : Exit → Act → World → Prop} {md : Region.Mode} {S : World → Prop} {fuel : Nat} {L : Array Bool} {K : Act → World → Prop} :
    Shut (∀ a w, S w → (S w → wpAnyH P md ops Q S fuel L a w) → K a w) = Cut (∀ a w, S w → (S w → wpAnyH P md #[] (NoPanic (fun _ a w => Hid (wpAnyH P md ops Q S fuel L a w))) S 0 #[] a w) → K a w) :=
  propext ⟨fun h a w hS k => h.out a w hS (fun hs => (k hs).2), fun h a w hS k => h.out a w hS (fun hs => ⟨by cases md <;> rfl, k hs⟩)⟩
end Go.Proofs.Ytfpgobkedfhakab.CutCall

/- Paths, files and trees, and when they are right: lists alone. -/
namespace Go.Proofs.Ytfpgobkedfhakab.Tre

/-- A file: its path, its mode, its data. -/
structure Fl where
  p : ByteArray
  m : Int
  d : ByteArray
/-- What stands between two signs c of a text, from place f on; seen as far as place i. -/
def splitG (c : UInt8) (t : ByteArray) (f i : Nat) : List ByteArray :=
  if h : i < t.size then (if t[i]'h = c then t.extract f i :: splitG c t (i + 1) (i + 1) else splitG c t f (i + 1)) else [t.extract f t.size]
termination_by t.size - i
theorem split_hit {c : UInt8} {t : ByteArray} (f : Nat) {i : Nat} (h : i < t.size) (hc : t[i]'h = c) : splitG c t f i = t.extract f i :: splitG c t (i + 1) (i + 1) := by rw [splitG, dif_pos h, if_pos hc]
theorem split_miss {c : UInt8} {t : ByteArray} (f : Nat) {i : Nat} (h : i < t.size) (hc : ¬ t[i]'h = c) : splitG c t f i = splitG c t f (i + 1) := by rw [splitG, dif_pos h, if_neg hc]
theorem split_end {c : UInt8} {t : ByteArray} (f : Nat) {i : Nat} (h : ¬ i < t.size) : splitG c t f i = [t.extract f t.size] := by rw [splitG, dif_neg h]
theorem split_len (c : UInt8) (t : ByteArray) : ∀ (n f i : Nat), t.size - i = n → i ≤ t.size → (splitG c t f i).length ≤ n + 1
  | 0, f, i, h, hi => by rw [split_end f (by omega)]; simp
  | n + 1, f, i, h, hi => by
    have hlt : i < t.size := by omega
    by_cases hc : t[i]'hlt = c
    · rw [split_hit f hlt hc]
      have := split_len c t n (i + 1) (i + 1) (by omega) (by omega)
      simp; omega
    · rw [split_miss f hlt hc]
      have := split_len c t n f (i + 1) (by omega) (by omega)
      omega

def okC (c : UInt8) : Bool := (decide (97 ≤ c.toNat) && decide (c.toNat ≤ 122)) || (decide (48 ≤ c.toNat) && decide (c.toNat ≤ 57)) || decide (c.toNat = 45) || decide (c.toNat = 46)
def named (b : ByteArray) : Bool := !(b.toList.isEmpty || b.toList == [46] || b.toList == [46, 46])
def okPart (b : ByteArray) : Bool := named b && b.data.toList.all okC
def pathR (t : ByteArray) : Bool := decide (t.size ≤ 20) && (splitG 47 t 0 0).all okPart && decide ((splitG 47 t 0 0).length ≤ 3)
/-- The same, in one go. -/
def pGo (t : ByteArray) (s i n : Nat) : Bool :=
  if h : i < t.size then (if t[i]'h = 47 then named (t.extract s i) && pGo t (i + 1) (i + 1) (n + 1) else okC (t[i]'h) && pGo t s (i + 1) n) else decide (n ≤ 3) && named (t.extract s t.size)
termination_by t.size - i

theorem len_extract (t : ByteArray) (s e : Nat) : (t.extract s e).data.toList.length = min e t.data.size - s := by
  rw [ByteArray.data_extract, Array.length_toList, Array.size_extract]
theorem get_extract (t : ByteArray) (s e k : Nat) (h : k < (t.extract s e).data.toList.length) : ∃ h2 : s + k < t.size, s + k < e ∧ (t.extract s e).data.toList[k] = t[s + k]'h2 := by
  have hl0 : (t.extract s e).data.toList.length = min e t.data.size - s := len_extract t s e
  rw [hl0] at h
  have h3 : s + k < t.data.size := by omega
  refine ⟨h3, by omega, ?_⟩
  simp [ByteArray.getElem_eq_getElem_data]
theorem all_extract (t : ByteArray) (s e : Nat) (he : e ≤ t.size) : (t.extract s e).data.toList.all okC = true ↔ ∀ k (h : k < t.size), s ≤ k → k < e → okC (t[k]'h) = true := by
  have hts : t.data.size = t.size := rfl
  constructor
  · intro h k hk hs hke
    rw [List.all_eq_true] at h
    have hl0 := len_extract t s e
    have hl : k - s < (t.extract s e).data.toList.length := by rw [hl0]; omega
    have := h _ (List.getElem_mem hl)
    obtain ⟨h2, _, h3⟩ := get_extract t s e (k - s) hl
    rw [h3] at this
    have e1 : s + (k - s) = k := by omega
    simpa only [e1] using this
  · intro h
    rw [List.all_eq_true]
    intro x hx
    obtain ⟨k, hk, rfl⟩ := List.getElem_of_mem hx
    obtain ⟨h2, h4, h3⟩ := get_extract t s e k hk
    rw [h3]
    exact h _ h2 (by omega) h4
theorem bad_split (t : ByteArray) (k : Nat) (hk : k < t.size) (hbad : okC (t[k]'hk) = false) : ∀ (n s i : Nat), t.size - i = n → i ≤ t.size → s ≤ k → k < i → (splitG 47 t s i).all okPart = false
  | 0, s, i, h, hi, h1, h2 => by
    rw [split_end s (by omega)]
    have : (t.extract s t.size).data.toList.all okC = false := by
      rw [Bool.eq_false_iff]; intro e
      have := (all_extract t s t.size (Nat.le_refl _)).1 e k hk h1 hk
      rw [hbad] at this; cases this
    rw [List.all_cons, okPart, this]; simp only [Bool.and_false, Bool.false_and]
  | n + 1, s, i, h, hi, h1, h2 => by
    have hlt : i < t.size := by omega
    by_cases hc : t[i]'hlt = 47
    · rw [split_hit s hlt hc]
      have : (t.extract s i).data.toList.all okC = false := by
        rw [Bool.eq_false_iff]; intro e
        have := (all_extract t s i hi).1 e k hk h1 h2
        rw [hbad] at this; cases this
      rw [List.all_cons, okPart, this]; simp only [Bool.and_false, Bool.false_and]
    · rw [split_miss s hlt hc]
      exact bad_split t k hk hbad n s (i + 1) (by omega) (by omega) h1 (by omega)
theorem pGo_split (t : ByteArray) : ∀ (n s i m : Nat), t.size - i = n → i ≤ t.size → s ≤ i → (∀ k (h : k < t.size), s ≤ k → k < i → okC (t[k]'h) = true) → pGo t s i m = ((splitG 47 t s i).all okPart && decide (m + (splitG 47 t s i).length ≤ 4))
  | 0, s, i, m, h, hi, hs, hok => by
    rw [pGo, dif_neg (by omega), split_end s (by omega)]
    have e : (t.extract s t.size).data.toList.all okC = true := (all_extract t s t.size (Nat.le_refl _)).2 fun k hk h1 h2 => hok k hk h1 (by omega)
    have e2 : decide (m ≤ 3) = decide (m + 1 ≤ 4) := by congr 1; simp
    simp only [List.all_cons, List.all_nil, okPart, e, Bool.and_true, List.length_singleton, e2]
    rw [Bool.and_comm]
  | n + 1, s, i, m, h, hi, hs, hok => by
    have hlt : i < t.size := by omega
    rw [pGo, dif_pos hlt]
    by_cases hc : t[i]'hlt = 47
    · rw [if_pos hc, split_hit s hlt hc, pGo_split t n (i + 1) (i + 1) (m + 1) (by omega) (by omega) (Nat.le_refl _) (fun k _ h1 h2 => by omega)]
      have e : (t.extract s i).data.toList.all okC = true := (all_extract t s i hi).2 fun k hk h1 h2 => hok k hk h1 h2
      have e2 : m + 1 + (splitG 47 t (i + 1) (i + 1)).length = m + (t.extract s i :: splitG 47 t (i + 1) (i + 1)).length := by simp; omega
      rw [e2, List.all_cons, okPart, e, Bool.and_true, Bool.and_assoc]
    · rw [if_neg hc, split_miss s hlt hc]
      cases ho : okC (t[i]'hlt)
      · rw [bad_split t i hlt ho n s (i + 1) (by omega) (by omega) hs (by omega)]; simp
      · rw [pGo_split t n s (i + 1) m (by omega) (by omega) (by omega) (fun k hk h1 h2 => by
          by_cases e : k = i
          · subst e; exact ho
          · exact hok k hk h1 (by omega))]
        simp
theorem pathR_go (t : ByteArray) (h : t.size ≤ 20) : pathR t = pGo t 0 0 1 := by
  rw [pGo_split t (t.size - 0) 0 0 1 rfl (Nat.zero_le _) (Nat.le_refl _) (fun k _ h1 h2 => by omega), pathR, decide_eq_true h, Bool.true_and]
  congr 1
  by_cases e : (splitG 47 t 0 0).length ≤ 3
  · rw [decide_eq_true e, decide_eq_true (by omega)]
  · rw [decide_eq_false e, decide_eq_false (by omega)]
theorem pathR_big {t : ByteArray} (h : ¬ t.size ≤ 20) : pathR t = false := by unfold pathR; simp [h]
theorem pathR_le {t : ByteArray} (h : pathR t = true) : t.size ≤ 20 := by
  rcases Nat.lt_or_ge 20 t.size with h2 | h2
  · rw [pathR_big (by omega)] at h; cases h
  · exact h2
theorem pGo_end {t : ByteArray} {s i n : Nat} (h : ¬ i < t.size) : pGo t s i n = (decide (n ≤ 3) && named (t.extract s t.size)) := by rw [pGo, dif_neg h]
theorem pGo_hit {t : ByteArray} {s i n : Nat} (h : i < t.size) (hc : t[i]'h = 47) : pGo t s i n = (named (t.extract s i) && pGo t (i + 1) (i + 1) (n + 1)) := by rw [pGo, dif_pos h, if_pos hc]
theorem pGo_miss {t : ByteArray} {s i n : Nat} (h : i < t.size) (hc : ¬ t[i]'h = 47) : pGo t s i n = (okC (t[i]'h) && pGo t s (i + 1) n) := by rw [pGo, dif_pos h, if_neg hc]

def fileR (f : Fl) : Bool := pathR f.p && (decide (0 ≤ f.m) && decide (f.m ≤ 511)) && decide (f.d.size ≤ 80)
/-- a is what stands ahead of a stroke of b -/
def ahead (a b : ByteArray) : Bool := decide (a.size < b.size) && decide (b.data.toList.take (a.size + 1) = a.data.toList ++ [47])
def cross (a b : ByteArray) : Bool := ahead a b || ahead b a
def ltT (a b : ByteArray) : Bool := Op.bytesLess a.data.toList b.data.toList
theorem less_total : ∀ x y : List UInt8, (Op.bytesLess x y || x == y) = !Op.bytesLess y x
  | [], [] => by simp [Op.bytesLess]
  | _ :: _, [] => by simp [Op.bytesLess]
  | [], _ :: _ => by simp [Op.bytesLess]
  | a :: x, b :: y => by
    have ih := less_total x y
    have h1 : (a == b) = true ∨ (a == b) = false := by cases a == b <;> simp
    rcases h1 with h1 | h1
    · have e : a = b := by simpa using h1
      subst e
      simp [Op.bytesLess] at *
      rw [← ih]
    · have e2 : (b == a) = false := by rw [beq_eq_false_iff_ne]; intro h; rw [h] at h1; simp at h1
      have hab : (a :: x == b :: y) = false := by rw [beq_eq_false_iff_ne]; intro h; injection h with h _; rw [h] at h1; simp at h1
      have h3 : a.toNat ≠ b.toNat := fun h => by rw [UInt8.toNat_inj.1 h] at h1; simp at h1
      have h4 : decide (a < b) = !decide (b < a) := by
        have e1 : a < b ↔ a.toNat < b.toNat := UInt8.lt_iff_toNat_lt
        have e2 : b < a ↔ b.toNat < a.toNat := UInt8.lt_iff_toNat_lt
        by_cases hl : a.toNat < b.toNat
        · rw [decide_eq_true (e1.2 hl), decide_eq_false (fun h => by have := e2.1 h; omega)]; rfl
        · rw [decide_eq_false (fun h => hl (e1.1 h)), decide_eq_true (e2.2 (by omega))]; rfl
      simp only [Op.bytesLess, hab, h1, e2, Bool.false_and, Bool.or_false, h4]
theorem leq_total (x y : ByteArray) : (Op.bytesLess x.data.toList y.data.toList || x.data.toList == y.data.toList) = !ltT y x := less_total _ _
def goodAt (l : List Fl) (i : Nat) (h : i < l.length) : Bool := fileR l[i] && (decide (i = 0) || ltT (l[i - 1]'(by omega)).p l[i].p) && !((l.take i).any fun f => cross f.p l[i].p)
def treeR (l : List Fl) : Bool := decide (l.length ≤ 6) && decide (∀ i (h : i < l.length), goodAt l i h = true)
theorem treeR_big {l : List Fl} (h : ¬ l.length ≤ 6) : treeR l = false := by unfold treeR; simp [h]
theorem treeR_bad {l : List Fl} (i : Nat) (h : i < l.length) (hb : goodAt l i h = false) : treeR l = false := by
  unfold treeR
  rw [Bool.and_eq_false_iff]
  refine .inr (decide_eq_false fun h2 => ?_)
  rw [h2 i h] at hb; cases hb
theorem treeR_ok {l : List Fl} (h : l.length ≤ 6) (h2 : ∀ i (h : i < l.length), goodAt l i h = true) : treeR l = true := by unfold treeR; simp [h]; exact h2
theorem treeR_le {l : List Fl} (h : treeR l = true) : l.length ≤ 6 := by
  unfold treeR at h; simp at h; exact h.1
theorem treeR_at {l : List Fl} (h : treeR l = true) (i : Nat) (hi : i < l.length) : goodAt l i hi = true := by
  unfold treeR at h; simp at h; exact h.2 i hi
theorem goodAt_file {l : List Fl} {i : Nat} {h : i < l.length} (hg : goodAt l i h = true) : fileR l[i] = true := by
  unfold goodAt at hg; simp at hg; exact hg.1.1
theorem fileR_le {f : Fl} (h : fileR f = true) : f.p.size ≤ 20 ∧ 0 ≤ f.m ∧ f.m ≤ 511 ∧ f.d.size ≤ 80 := by
  unfold fileR at h; simp at h; exact ⟨pathR_le h.1.1, h.1.2.1, h.1.2.2, h.2⟩
end Go.Proofs.Ytfpgobkedfhakab.Tre

/- Laws on a slice of bytes that the call itself appends to. -/
namespace Go.Proofs.Ytfpgobkedfhakab.Mem
open Go.RowKit

/-- The slice v is of the call's own memory and holds the bytes l. -/
def OwnsB (w : World) (base : Nat) (e : TypeId) (v : Value) (l : List UInt8) : Prop := w.ownsRow base e 1 v l.length (Lib.byteCells l)

theorem length_byteCells (l : List UInt8) : (Lib.byteCells l).length = l.length := by simp [Lib.byteCells]

theorem own_empty (w : World) (base : Nat) (e : TypeId) (h : base ≤ w.heap.size) : OwnsB (w.alloc (.cells #[] e)) base e (.slice (some ⟨w.heap.size, 0, none⟩) 0 0) [] :=
  w.ownsRow_made #[] 0 h (by unfold maxLen; omega) (by simp)

/-- Behind an append of one byte. -/
theorem own_step {w wr w1 : World} {base : Nat} {e : TypeId} {v v' : Value} {l : List UInt8} {b : UInt8} {n : Int} {o : Obj} (hown : OwnsB wr base e v l) (hbel : Below base w wr) (hB : base ≤ wr.heap.size)
    (hn : n = (b.toNat : Int)) (h1 : w1.ownsRow base e 1 v' (l.length + 1) (Lib.byteCells l ++ [.int .u8 n])) (hg : (wr.alloc o).grownBy w1 v.ownBlock) : OwnsB w1 base e v' (l ++ [b]) ∧ Below base w w1 := by
  refine ⟨?_, ?_⟩
  · unfold OwnsB
    subst hn
    simpa [Lib.byteCells] using h1
  · refine (hbel.alloc hB o).grown hg (by simp; omega) (fun k hk => ?_)
    exact (World.ownsRow.lt hown k hk).1

/-- 'string(b)' of such a slice that is not empty. -/
theorem own_text {P : Program} (src dst e : TypeId) (hs : P.underlying src = some (.slice e)) (he : P.underlying e = some (.int .u8)) (hd : P.underlying dst = some .string)
    {W : World} {base : Nat} {v : Value} {l : List UInt8} (hl : l ≠ []) (h : OwnsB W base e v l) : (convert src dst v).run P W = .ok (.string ⟨l.toArray⟩) W := by
  have hc := fun g hg => World.ownsRow.cells h (g := g) hg
  obtain ⟨_, h2⟩ := h
  rcases h2 with ⟨_, h0⟩ | ⟨g, cap, cur, rfl, _⟩
  · exact absurd (List.eq_nil_of_length_eq_zero h0) hl
  · refine run_convert_bytes_back W src dst e _ cap l hs he hd ?_
    intro j hj
    refine hc g rfl j _ ?_
    simp [Lib.byteCells, hj]
end Go.Proofs.Ytfpgobkedfhakab.Mem

/- The bytes of a number, as a function of numbers. -/
namespace Go.Proofs.Ytfpgobkedfhakab.PutNum
open Go.RowKit

def foldN (n : Int) : Nat := if n < 0 then (-2 * n - 1).toNat else (2 * n).toNat
def putF : Nat → Nat → List UInt8
  | 0, u => [UInt8.ofNat u]
  | f + 1, u => if 128 ≤ u then UInt8.ofNat (u % 128 + 128) :: putF f (u / 128) else [UInt8.ofNat u]
/-- The bytes of a number. -/
def numL (n : Int) : List UInt8 := putF 9 (foldN n)

theorem foldN_lt (n : Int) (h1 : -9223372036854775808 ≤ n) (h2 : n ≤ 9223372036854775807) : foldN n < 18446744073709551616 := by
  unfold foldN; split <;> omega

theorem fold_neg {n : Int} (h : n < 0) : (foldN n : Int) = 2 * -(n + 1) + 1 := by unfold foldN; rw [if_pos h]; omega
theorem fold_pos {n : Int} (h : ¬ n < 0) : (foldN n : Int) = 2 * n := by unfold foldN; rw [if_neg h]; omega

theorem max64 : IntKind.u64.max = 18446744073709551615 := by simp [IntKind.max, IntKind.bits, IntKind.signed]

theorem xor_ones (a : Nat) (h : a < 18446744073709551616) : 18446744073709551615 ^^^ a = 18446744073709551615 - a := by
  have h1 : (BitVec.allOnes 64 ^^^ BitVec.ofNat 64 a).toNat = 18446744073709551615 ^^^ a := by
    rw [BitVec.toNat_xor, BitVec.toNat_allOnes, BitVec.toNat_ofNat, Nat.mod_eq_of_lt (by simpa using h)]
  rw [← h1, BitVec.allOnes_xor, BitVec.toNat_not, BitVec.toNat_ofNat, Nat.mod_eq_of_lt (by simpa using h)]

theorem fold_bits {n : Int} (h1 : -9223372036854775808 ≤ n) (h : n < 0) : bits .xor .u64 IntKind.u64.max (IntKind.u64.wrap (IntKind.u64.wrap n * 2)) = (foldN n : Int) := by
  have e1 : IntKind.u64.wrap n = n + 18446744073709551616 := by rw [IntKind.wrap_u64]; omega
  have e2 : IntKind.u64.wrap ((n + 18446744073709551616) * 2) = ((2 * n + 18446744073709551616).toNat : Int) := by rw [IntKind.wrap_u64]; omega
  rw [e1, e2, max64, fold_neg h]
  have := u64_xor_nat 18446744073709551615 (2 * n + 18446744073709551616).toNat (by decide) (by omega)
  rw [xor_ones _ (by omega)] at this
  refine Eq.trans this ?_
  omega

theorem putF_small {u : Nat} (h : u < 128) : ∀ f, putF f u = [UInt8.ofNat u]
  | 0 => rfl
  | f + 1 => by unfold putF; rw [if_neg (by omega)]

theorem putF_great {f u : Nat} (h : 128 ≤ u) : putF (f + 1) u = UInt8.ofNat (u % 128 + 128) :: putF f (u / 128) := by
  rw [putF, if_pos h]

theorem toNat_cont (u : Nat) : ((UInt8.ofNat (u % 128 + 128)).toNat : Int) = (u : Int) % 128 + 128 := by
  simp; omega

theorem toNat_last {u : Nat} (h : u < 128) : ((UInt8.ofNat u).toNat : Int) = (u : Int) := by
  simp; omega

/-- What holds at a round's head: f rounds at most are left, 'pre' has been laid down. -/
def Inv (u0 f u : Nat) (pre : List UInt8) : Prop := pre.length + f = 9 ∧ u < 128 ^ (f + 1) ∧ pre ++ putF f u = putF 9 u0

theorem inv_start {u : Nat} (h : u < 18446744073709551616) : Inv u 9 u [] := ⟨rfl, Nat.lt_of_lt_of_le h (by decide), rfl⟩

theorem inv_step {u0 f u : Nat} {pre : List UInt8} (h : Inv u0 f u pre) (hu : 128 ≤ u) : ∃ g, f = g + 1 ∧ Inv u0 g (u / 128) (pre ++ [UInt8.ofNat (u % 128 + 128)]) := by
  obtain ⟨h1, h2, h3⟩ := h
  cases f with
  | zero => omega
  | succ g =>
    refine ⟨g, rfl, by simp; omega, ?_, ?_⟩
    · rw [Nat.pow_succ] at h2
      exact Nat.div_lt_of_lt_mul (by rw [Nat.mul_comm]; exact h2)
    · rw [putF_great hu] at h3
      simpa using h3

theorem inv_end {u0 f u : Nat} {pre : List UInt8} (h : Inv u0 f u pre) (hu : u < 128) : pre ++ [UInt8.ofNat u] = putF 9 u0 := by
  have := h.2.2
  rwa [putF_small hu] at this

theorem inv_le {u0 f u : Nat} {pre : List UInt8} (h : Inv u0 f u pre) : pre.length ≤ 9 := by have := h.1; omega
theorem length_putF : ∀ f u, 1 ≤ (putF f u).length ∧ (putF f u).length ≤ f + 1
  | 0, u => by simp [putF]
  | f + 1, u => by
    have := length_putF f (u / 128)
    unfold putF; split <;> simp <;> omega
theorem length_numL (n : Int) : 1 ≤ (numL n).length ∧ (numL n).length ≤ 10 := length_putF 9 _
end Go.Proofs.Ytfpgobkedfhakab.PutNum

/- The CRC of chapter 2 as a function of numbers, and its bounds. -/
namespace Go.Proofs.Ytfpgobkedfhakab.Crc
open Go.RowKit

def bitS (x : Nat) : Nat := if x % 2 = 1 then (x / 2) ^^^ 3988292384 else x / 2
def itS : Nat → Nat → Nat
  | 0, x => x
  | k + 1, x => bitS (itS k x)
def byteS (x c : Nat) : Nat := itS 8 (x ^^^ c)
def crcTo (s : ByteArray) (x : Nat) : Nat → Nat
  | 0 => x
  | k + 1 => byteS (crcTo s x k) (s[k]?.getD 0).toNat
def crcOf (x : Nat) (s : ByteArray) : Nat := crcTo s (x ^^^ 4294967295) s.size ^^^ 4294967295

theorem xor_lt {a b : Nat} (ha : a < 4294967296) (hb : b < 4294967296) : a ^^^ b < 4294967296 :=
  Nat.xor_lt_two_pow (n := 32) ha hb

theorem bitS_lt {x : Nat} (h : x < 4294967296) : bitS x < 4294967296 := by
  unfold bitS
  split
  · exact xor_lt (by omega) (by omega)
  · omega

theorem itS_lt {x : Nat} (h : x < 4294967296) : ∀ k, itS k x < 4294967296
  | 0 => h
  | k + 1 => bitS_lt (itS_lt h k)

theorem byteS_lt {x c : Nat} (h : x < 4294967296) (hc : c < 4294967296) : byteS x c < 4294967296 := itS_lt (xor_lt h hc) 8

theorem byte_lt (c : UInt8) : c.toNat < 256 := c.toNat_lt

theorem crcTo_lt (s : ByteArray) {x : Nat} (h : x < 4294967296) : ∀ k, crcTo s x k < 4294967296
  | 0 => h
  | k + 1 => byteS_lt (crcTo_lt s h k) (by have := byte_lt (s[k]?.getD 0); omega)

theorem crcOf_lt {x : Nat} (h : x < 4294967296) (s : ByteArray) : crcOf x s < 4294967296 :=
  xor_lt (crcTo_lt s (xor_lt h (by omega)) _) (by omega)

theorem xor32 {a b : Nat} (ha : a < 4294967296) (hb : b < 4294967296) : bits .xor .u32 (a : Int) (b : Int) = ((a ^^^ b : Nat) : Int) := u32_xor_nat a b ha hb

theorem xorM {a : Nat} (ha : a < 4294967296) : bits .xor .u32 (a : Int) 4294967295 = ((a ^^^ 4294967295 : Nat) : Int) :=
  u32_xor_nat a 4294967295 ha (by decide)

theorem xorM' {a : Nat} (ha : a < 4294967296) : bits .xor .u32 4294967295 (a : Int) = ((a ^^^ 4294967295 : Nat) : Int) := by
  rw [Nat.xor_comm]; exact u32_xor_nat 4294967295 a (by decide) ha

theorem and1 {x : Nat} (h : x < 4294967296) : bits .and .u32 (x : Int) 1 = ((x % 2 : Nat) : Int) := by
  have := u32_and_nat x 1 h (by omega)
  rw [Nat.and_one_is_mod] at this
  exact this

theorem poly {x : Nat} (h : x < 4294967296) : bits .xor .u32 ((x : Int) / 2) 3988292384 = ((x / 2 ^^^ 3988292384 : Nat) : Int) := by
  have := u32_xor_nat (x / 2) 3988292384 (by omega) (by omega)
  rw [← this]
  simp

theorem bit_yes {x : Nat} (h : x < 4294967296) (e : x % 2 = 1) : bits .xor .u32 ((x : Int) / 2) 3988292384 = (bitS x : Int) := by
  rw [poly h, bitS, if_pos e]

theorem bit_no {x : Nat} (e : ¬ x % 2 = 1) : ((x : Int) / 2) = (bitS x : Int) := by
  rw [bitS, if_neg e]; simp

theorem test_yes {x : Nat} (h : x < 4294967296) (e : x % 2 = 1) : (bits .and .u32 (x : Int) 1 == 1) = true := by
  rw [and1 h, e]; rfl

theorem test_no {x : Nat} (h : x < 4294967296) (e : ¬ x % 2 = 1) : (bits .and .u32 (x : Int) 1 == 1) = false := by
  rw [and1 h, beq_eq_false_iff_ne]; omega
end Go.Proofs.Ytfpgobkedfhakab.Crc
