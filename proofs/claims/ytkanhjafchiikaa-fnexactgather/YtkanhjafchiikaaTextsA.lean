/- Laws that the proof rests on, put together: The texts that mark a place, as a function of their number. Laws on rows of bytes that a call makes: made, copied into, read as a text. Whole arrays out of and into a row. Rows behind new blocks, stores elsewhere, draws and calls. A drawn region in which calls come ahead of operations that their guard passes over: the walk is cut behind the last call, and what is left goes step by step. Laws on a slice of bytes that the call itself appends to. A slice of bytes of the call's own memory that may bear the mark of a conversion: made out of a text, and appended to byte by byte. -/
import Derived.WalkKit
import Derived.Below
import Derived.Deep.OwnRows
import Derived.Lib.BufferWrite
import Derived.Laws.CopyOwn
import Derived.Laws.IdiomStrings
import Derived.Deep.WholeRow
import Derived.Deep.Draws
import Derived.Deep.RegionHeld3
import Derived.Deep.AppendLies
/- The texts that mark a place, as a function of their number. -/
namespace Go.Proofs.Ytkanhjafchiikaa.Mark

/-- The digits of a number ahead of what stands. -/
def digs (k : Nat) (acc : List UInt8) : List UInt8 := if h : k = 0 then acc else digs (k / 10) (UInt8.ofNat (48 + k % 10) :: acc)
termination_by k
decreasing_by omega

theorem digs_zero (acc : List UInt8) : digs 0 acc = acc := by rw [digs]; simp
theorem digs_pos {k : Nat} (h : 0 < k) (acc : List UInt8) : digs k acc = digs (k / 10) (UInt8.ofNat (48 + k % 10) :: acc) := by rw [digs]; simp; intro h2; omega

def markB (k : Nat) : ByteArray := if k = 0 then ⟨#[109, 48]⟩ else ⟨(109 :: digs k []).toArray⟩
def marks (k n : Nat) : List ByteArray := (List.range n).map fun i => markB (k + i)
theorem length_marks (k n : Nat) : (marks k n).length = n := by simp [marks]
end Go.Proofs.Ytkanhjafchiikaa.Mark

/- Laws on rows of bytes that a call makes: made, copied into, read as a text. -/
namespace Go.Proofs.Ytkanhjafchiikaa.Mem
open Go.RowKit

/-- Block g is a row of these cells. -/
def HasRow (W : World) (g : Nat) (cs : List Value) (e : TypeId) : Prop := W.heap[g]? = some (.cells cs.toArray e (0, 0))

theorem bstep {w a b : World} (h : Below w.heap.size w a) (k : Below a.heap.size a b) : Below w.heap.size w b := h.trans (k.mono h.size)
theorem balloc {w a : World} (h : Below w.heap.size w a) (o : Obj) : Below w.heap.size w (a.alloc o) := h.alloc h.size o

theorem bytes_data (s : ByteArray) : s.data.toList.length = s.size := rfl

theorem make_bytes {P : Program} (t e : TypeId) (ht : P.underlying t = some (.slice e)) (hinfo : (P.info? e).map (fun i => (i.zero, i.size, i.bytes)) = some (some (.int .u8 0), 1, 1))
    (n : Nat) (hn : n ≤ 1000000000) (w : World) :
    ∃ W1, (Instr.makeSlice t (.int .i64 (n : Int)) (.int .i64 (n : Int))).run P w = .ok (.slice (some ⟨w.heap.size, 0, none⟩) n n) W1 ∧ HasRow W1 w.heap.size (List.replicate n (.int .u8 0)) e ∧ Below w.heap.size w W1 ∧ W1.heap.size = w.heap.size + 1 := by
  refine ⟨_, run_make_row' (P := P) t e (.int .u8 0) 1 ht hinfo rfl .i64 .i64 n (by omega) (by omega) w, ?_, (Below.refl _ _).alloc (Nat.le_refl _) _, by simp⟩
  unfold HasRow
  rw [← toList_madeCells_one]
  show (w.heap.push _)[w.heap.size]? = _
  simp

theorem copy_str {P : Program} (dT sT ty elem : TypeId) (hu : P.underlying dT = some (.slice elem)) (hinfo : (P.info? elem).map (fun i => (i.zero, i.size, i.bytes)) = some (some (.int .u8 0), 1, 1))
    (W : World) (g o dLen dCap : Nat) (s : ByteArray) (cur : List Value) (hg : HasRow W g cur elem) (hle : s.size ≤ dLen) (hfit : o + s.size ≤ cur.length) :
    ∃ W', (Builtin.copy_ #[dT, sT] ty #[.slice (some ⟨g, o, none⟩) dLen dCap, .string s]).run P W = .ok (goInt s.size) W' ∧ HasRow W' g (cur.take o ++ Lib.byteCells s.data.toList ++ cur.drop (o + s.size)) elem ∧ Below g W W' ∧ W'.heap.size = W.heap.size := by
  have hs : (P.info? elem).map (·.size) = some 1 := by
    obtain ⟨i, hi, hzz⟩ := Option.map_eq_some_iff.1 hinfo
    simp only [Prod.mk.injEq] at hzz
    simp [hi, hzz.2.1]
  refine ⟨_, Lib.run_copy_row_string W dT sT ty elem g o dLen dCap s cur.toArray elem hu hs hg hle (by simpa using hfit), ?_, below_setRow (Below.refl _ _) (Nat.le_refl _) _, by simp [World.setRow]⟩
  have := setRow_heap W g _ (List.take o cur.toArray.toList ++ Lib.byteCells s.data.toList ++ List.drop (o + s.size) cur.toArray.toList).toArray elem _ hg
  unfold HasRow
  simpa using this

theorem copy_empty {P : Program} (dT sT ty elem : TypeId) (hu : P.underlying dT = some (.slice elem)) (hinfo : (P.info? elem).map (fun i => (i.zero, i.size, i.bytes)) = some (some (.int .u8 0), 1, 1))
    (W : World) (d : Option Addr) (dLen dCap : Nat) :
    (Builtin.copy_ #[dT, sT] ty #[.slice d dLen dCap, .string ByteArray.empty]).run P W = .ok (goInt 0) W := by
  obtain ⟨i, hi, hzz⟩ := Option.map_eq_some_iff.1 hinfo
  exact Lib.run_copy_empty_string W dT sT ty elem d dLen dCap ByteArray.empty hu (by simp [hi]) rfl

theorem cell_of_row {W : World} {g : Nat} {cs : List Value} {e : TypeId} (h : HasRow W g cs e) (j : Nat) : W.cell? ⟨g, j, none⟩ = cs[j]? := by
  unfold HasRow at h
  unfold World.cell?
  rw [h]
  simp

theorem frozen_of_row {W : World} {g : Nat} {cs : List Value} {e : TypeId} (h : HasRow W g cs e) (j : Nat) : W.frozen? ⟨g, j, none⟩ = false := by
  unfold HasRow at h
  unfold World.frozen?
  rw [h]
  simp

theorem row_set {W : World} {g : Nat} {cs : List Value} {e : TypeId} (h : HasRow W g cs e) (k : Nat) (v : Value) : HasRow (W.setCell ⟨g, k, none⟩ v) g (cs.set k v) e := by
  unfold HasRow at h ⊢
  simp only [World.setCell, Array.getElem?_modify, h]
  simp

/-- 'string(b)', b the first cells of a row of bytes. -/
theorem text_of_row {P : Program} (src dst e : TypeId) (hs : P.underlying src = some (.slice e)) (he : P.underlying e = some (.int .u8)) (hd : P.underlying dst = some .string)
    (W : World) (g cap n : Nat) (l : List UInt8) (rest : List Value) (hn : l.length = n) {T : TypeId} (hg : HasRow W g (Lib.byteCells l ++ rest) T) :
    (convert src dst (.slice (some ⟨g, 0, none⟩) n cap)).run P W = .ok (.string ⟨l.toArray⟩) W := by
  subst hn
  refine run_convert_bytes_back W src dst e _ cap l hs he hd ?_
  intro j hj
  have := cell_of_row hg j
  have ha : (⟨g, 0, none⟩ : Addr).add j = ⟨g, j, none⟩ := by unfold Addr.add; split <;> simp_all
  rw [ha, this]
  simp [Lib.byteCells, List.getElem?_append, hj]

theorem append_eq (a b : ByteArray) : (⟨(a.data.toList ++ b.data.toList).toArray⟩ : ByteArray) = a ++ b := by
  apply ByteArray.ext
  simp
end Go.Proofs.Ytkanhjafchiikaa.Mem

/- Whole arrays out of and into a row. -/
namespace Go.Proofs.Ytkanhjafchiikaa.Mem
open Go.RowKit

theorem load_row {P : Program} {W : World} {g : Nat} {cs : List Value} {T : TypeId} {n : Nat} {e : TypeId} (h : HasRow W g cs T) (hu : P.underlying T = some (.array n e)) (hi : (P.info? T).map (·.size) = some cs.length) :
    (loadVar T ⟨g, 0, none⟩).run P W = .ok (.agg cs.toArray) W :=
  run_loadVar_row _ _ T T cs.toArray (0, 0) _ h hu rfl (by simpa using hi)
theorem loadAt_row {P : Program} {W : World} {g : Nat} {cs : List Value} {T : TypeId} {n : Nat} {e : TypeId} (h : HasRow W g cs T) (hu : P.underlying T = some (.array n e)) (hi : (P.info? T).map (·.size) = some cs.length) :
    (Instr.loadAt T (.pointer (some ⟨g, 0, none⟩))).run P W = .ok (.agg cs.toArray) W := by
  simp only [Instr.loadAt, Instr.sureAddr, Sem.run_bind, Sem.run_pure, Result.andThen]
  exact load_row h hu hi
theorem store_row {P : Program} {W : World} {g : Nat} {cs cs' : List Value} {T : TypeId} (h : HasRow W g cs T) (hi : (P.info? T).map (·.size) = some cs'.length) (ho : cs.length = cs'.length) (h1 : ∀ v ∈ cs', v.oneCell' = true) :
    ∃ W', (Instr.storeAt T (.pointer (some ⟨g, 0, none⟩)) (.agg cs'.toArray)).run P W = .ok () W' ∧ HasRow W' g cs' T ∧ (∀ k, k ≠ g → W'.heap[k]? = W.heap[k]?) ∧ (∀ B w, B ≤ g → Below B w W → Below B w W') ∧ W'.heap.size = W.heap.size := by
  have hs := run_storeVar_row (P := P) W g T T cs.toArray cs'.toArray h (by simpa using hi) (by simpa using ho) (Array.all_eq_true_iff_forall_mem.2 (fun v hv => h1 v (by simpa using hv)))
  refine ⟨W.setRow g cs'.toArray, ?_, ?_, ?_, ?_, by simp [World.setRow]⟩
  · simp only [Instr.storeAt, Instr.sureAddr, Sem.run_bind, Sem.run_pure, Result.andThen]
    exact hs
  · exact setRow_heap W g _ cs'.toArray T _ h
  · intro k hk
    simp [World.setRow, Array.getElem?_modify, Ne.symm hk]
  · intro B w hB hb
    exact below_setRow hb hB _

theorem row_load_wp {P : Program} {ops : Array Oper} {rest : List Oper} {op : Oper} {a : Act} {w : World} {Q : Exit → Act → World → Prop} (hgd : op.guard = none) (ty : TypeId) (x : Operand) (ho : op.op = .load ty x)
    (g : Nat) (hx : a.eval x = .pointer (some ⟨g, 0, none⟩)) {cs : List Value} {n : Nat} {e : TypeId} (hr : HasRow w g cs ty) (hu : P.underlying ty = some (.array n e)) (hi : (P.info? ty).map (·.size) = some cs.length)
    (h : wpList P ops Q rest (a.put op.dst (.agg cs.toArray)) w) : wpList P ops Q (op :: rest) a w :=
  wpList_plain hgd fun _ hK => by
    unfold Oper.wp execOp
    simp only [ho, hx, Instr.loadAt, Instr.sureAddr, Sem.run_bind, Sem.run_pure, Result.andThen_ok, load_row hr hu hi]
    exact hK _ _ h
theorem row_store_wp {P : Program} {ops : Array Oper} {rest : List Oper} {op : Oper} {a : Act} {w : World} {Q : Exit → Act → World → Prop} (hgd : op.guard = none) (ty : TypeId) (x y : Operand) (ho : op.op = .store ty x y)
    (g : Nat) (hx : a.eval x = .pointer (some ⟨g, 0, none⟩)) {cs cs' : List Value} (hy : a.eval y = .agg cs'.toArray) (hr : HasRow w g cs ty) (hi : (P.info? ty).map (·.size) = some cs'.length) (ho2 : cs.length = cs'.length) (h1 : ∀ v ∈ cs', v.oneCell' = true)
    (h : ∀ W', HasRow W' g cs' ty → (∀ k, k ≠ g → W'.heap[k]? = w.heap[k]?) → (∀ B u, B ≤ g → Below B u w → Below B u W') → W'.heap.size = w.heap.size → wpList P ops Q rest (a.put op.dst undef) W') : wpList P ops Q (op :: rest) a w := by
  obtain ⟨W', hst, h2, h3, h4, h5⟩ := store_row (P := P) hr hi ho2 h1
  refine wpList_plain hgd fun _ hK => ?_
  unfold Oper.wp execOp
  simp only [ho, hx, hy, hst, Sem.run_bind, Result.andThen_ok]
  exact hK _ _ (h W' h2 h3 h4 h5)

/-- A result that lies in a variable. -/
theorem results_cell {P : Program} {fn : Func} {tmps : Array Value} {w : World} {v : Value} {a : Nat} {t : TypeId} {p : Addr} (hf : fn.results = #[.cell a t]) (ha : tmps.getD a undef = .pointer (some p)) (hl : (loadVar t p).run P w = .ok v w) :
    (results fn tmps).run P w = .ok v w := by
  unfold results
  rw [hf]
  have ha2 : tmps[a]?.getD undef = .pointer (some p) := by simpa [Array.getD_eq_getD_getElem?] using ha
  simp [ha2, hl, asAddr]
end Go.Proofs.Ytkanhjafchiikaa.Mem

/- Rows behind new blocks, stores elsewhere, draws and calls. -/
namespace Go.Proofs.Ytkanhjafchiikaa.Sha
open Go.RowKit Go.Proofs.Ytkanhjafchiikaa.Mem

theorem bel_cell {w wr : World} (h : Below w.heap.size w wr) {p : Addr} {v : Value} (hc : w.cell? p = some v) : wr.cell? p = some v := by
  rw [h.cell (World.block_lt_of_cell? w p hc)]; exact hc

theorem bel_drewN {B : Nat} {a w : World} (h : Below B a w) (n : Nat) : Below B a (w.drewN n) := ⟨h.os, h.tape, h.output, h.size, h.block⟩

theorem row_new (w : World) (cs : List Value) (e : TypeId) : HasRow (w.alloc (.cells cs.toArray e)) w.heap.size cs e := by
  show (w.heap.push _)[w.heap.size]? = _
  simp
theorem row_new_at (w : World) (cs : List Value) (e : TypeId) (g : Nat) (hg : g = w.heap.size) : HasRow (w.alloc (.cells cs.toArray e)) g cs e := by subst hg; exact row_new w cs e
theorem row_alloc {w : World} {g : Nat} {cs : List Value} {e : TypeId} (h : HasRow w g cs e) (o : Obj) : HasRow (w.alloc o) g cs e := by
  unfold HasRow at h ⊢
  obtain ⟨hl, _⟩ := Array.getElem?_eq_some_iff.1 h
  rw [Below.heap_alloc w o g hl]
  exact h
theorem row_other {w : World} {g : Nat} {cs : List Value} {e : TypeId} (h : HasRow w g cs e) (a : Addr) (v : Value) (hg : g ≠ a.block) : HasRow (w.setCell a v) g cs e := by
  unfold HasRow at h ⊢
  rw [Below.heap_setCell w a v g hg]
  exact h
theorem row_drew {w : World} {g : Nat} {cs : List Value} {e : TypeId} (h : HasRow w g cs e) : HasRow w.drew g cs e := h
theorem row_drewN {w : World} {g : Nat} {cs : List Value} {e : TypeId} (h : HasRow w g cs e) (n : Nat) : HasRow (w.drewN n) g cs e := h

theorem row_far {W W' : World} {g k : Nat} {cs : List Value} {e : TypeId} (h : HasRow W k cs e) (hoth : ∀ k, k ≠ g → W'.heap[k]? = W.heap[k]?) (hk : k ≠ g) : HasRow W' k cs e := by
  unfold HasRow at h ⊢
  rw [hoth k hk]; exact h
theorem row_below {W W' : World} {B k : Nat} {cs : List Value} {e : TypeId} (h : HasRow W k cs e) (hb : Below B W W') (hk : k < B) : HasRow W' k cs e := by
  unfold HasRow at h ⊢
  rw [hb.block k hk]; exact h
end Go.Proofs.Ytkanhjafchiikaa.Sha

/- A drawn region in which calls come ahead of operations that their guard passes over: the walk is cut behind the last call, and what is left goes step by step. -/
namespace Go.Proofs.Ytkanhjafchiikaa.CutCall
open Go Go.RowKit

/-- The way back into the region, cut. -/
def Cut (p : Prop) : Prop := p
theorem Cut.out {p : Prop} (h : Cut p) : p := h
theorem shut_cut {P : Program} {ops : Array Oper} {Q : Exit → Act → World → Prop} {md : Region.Mode} {S : World → Prop} {fuel : Nat} {L : Array Bool} {K : Act → World → Prop} :
    Shut (∀ a w, S w → (S w → wpAnyH P md ops Q S fuel L a w) → K a w) = Cut (∀ a w, S w → (S w → wpAnyH P md #[] (NoPanic (fun _ a w => Hid (wpAnyH P md ops Q S fuel L a w))) S 0 #[] a w) → K a w) :=
  propext ⟨fun h a w hS k => h.out a w hS (fun hs => (k hs).2), fun h a w hS k => h.out a w hS (fun hs => ⟨by cases md <;> rfl, k hs⟩)⟩
end Go.Proofs.Ytkanhjafchiikaa.CutCall

/- Laws on a slice of bytes that the call itself appends to. -/
namespace Go.Proofs.Ytkanhjafchiikaa.Mem
open Go.RowKit

/-- The slice v is of the call's own memory and holds the bytes l. -/
def OwnsB (w : World) (base : Nat) (e : TypeId) (v : Value) (l : List UInt8) : Prop := w.ownsRow base e 1 v l.length (Lib.byteCells l)

theorem length_byteCells (l : List UInt8) : (Lib.byteCells l).length = l.length := by simp [Lib.byteCells]

theorem own_empty (w : World) (base : Nat) (e : TypeId) (h : base ≤ w.heap.size) : OwnsB (w.alloc (.cells #[] e)) base e (.slice (some ⟨w.heap.size, 0, none⟩) 0 0) [] :=
  w.ownsRow_made #[] 0 h (by unfold maxLen; omega) (by simp)

/-- Behind an append of one byte. -/
theorem own_step {w wr w1 : World} {base : Nat} {e : TypeId} {v v' : Value} {l : List UInt8} {b : UInt8} {n : Int} {o : Obj} (hown : OwnsB wr base e v l) (hbel : Below base w wr) (hB : base ≤ wr.heap.size)
    (hn : n = (b.toNat : Int)) (h1 : w1.ownsRow base e 1 v' (l.length + 1) (Lib.byteCells l ++ [.int .u8 n])) (hg : (wr.alloc o).grownBy w1 v.ownBlock) : OwnsB w1 base e v' (l ++ [b]) ∧ Below base w w1 := by
  refine ⟨?_, ?_⟩
  · unfold OwnsB
    subst hn
    simpa [Lib.byteCells] using h1
  · refine (hbel.alloc hB o).grown hg (by simp; omega) (fun k hk => ?_)
    exact (World.ownsRow.lt hown k hk).1

/-- 'string(b)' of such a slice that is not empty. -/
theorem own_text {P : Program} (src dst e : TypeId) (hs : P.underlying src = some (.slice e)) (he : P.underlying e = some (.int .u8)) (hd : P.underlying dst = some .string)
    {W : World} {base : Nat} {v : Value} {l : List UInt8} (hl : l ≠ []) (h : OwnsB W base e v l) : (convert src dst v).run P W = .ok (.string ⟨l.toArray⟩) W := by
  have hc := fun g hg => World.ownsRow.cells h (g := g) hg
  obtain ⟨_, h2⟩ := h
  rcases h2 with ⟨_, h0⟩ | ⟨g, cap, cur, rfl, _⟩
  · exact absurd (List.eq_nil_of_length_eq_zero h0) hl
  · refine run_convert_bytes_back W src dst e _ cap l hs he hd ?_
    intro j hj
    refine hc g rfl j _ ?_
    simp [Lib.byteCells, hj]
end Go.Proofs.Ytkanhjafchiikaa.Mem

/- A slice of bytes of the call's own memory that may bear the mark of a conversion: made out of a text, and appended to byte by byte. -/
namespace Go.Proofs.Ytkanhjafchiikaa.Mem
open Go.RowKit

/-- The slice v is of the call's own memory and holds the bytes l; no cell of its row is frozen. -/
def OwnsM (w : World) (base : Nat) (e : TypeId) (v : Value) (l : List UInt8) : Prop :=
  ∃ g cap cur fz, v = .slice (some ⟨g, 0, none⟩) l.length cap ∧ base ≤ g ∧ w.heap[g]? = some (.cells cur e fz) ∧ (fz = (0, 0) ∨ cur.size ≤ fz.1) ∧ l.length ≤ cap ∧ cap ≤ maxLen ∧ cur.size = cap ∧ cur.toList.take l.length = Lib.byteCells l

theorem OwnsM.lt {w : World} {base : Nat} {e : TypeId} {v : Value} {l : List UInt8} (h : OwnsM w base e v l) : ∀ k, v.ownBlock = some k → base ≤ k ∧ k < w.heap.size := by
  obtain ⟨g, cap, cur, fz, rfl, hb, hg, _⟩ := h
  intro k hk
  simp [Value.ownBlock] at hk
  subst hk
  exact ⟨hb, (Array.getElem?_eq_some_iff.1 hg).1⟩

theorem OwnsM.cells {w : World} {base : Nat} {e : TypeId} {v : Value} {l : List UInt8} (h : OwnsM w base e v l) {g : Nat} (hg : v.ownBlock = some g) : ∀ j (hj : j < l.length), w.cell? ⟨g, j, none⟩ = some (.int .u8 (l[j].toNat : Nat)) := by
  obtain ⟨g', cap, cur, fz, rfl, hb, hgg, _, _, _, _, ht⟩ := h
  intro j hj
  simp [Value.ownBlock] at hg
  subst hg
  have h1 : (cur.toList.take l.length)[j]? = (Lib.byteCells l)[j]? := by rw [ht]
  rw [List.getElem?_take, if_pos hj] at h1
  have h2 : w.cell? ⟨g', j, none⟩ = cur[j]? := by simp [World.cell?, hgg]
  rw [h2, ← Array.getElem?_toList, h1]
  simp [Lib.byteCells, hj]

theorem OwnsM.alloc {w : World} {base : Nat} {e : TypeId} {v : Value} {l : List UInt8} (h : OwnsM w base e v l) (o : Obj) : OwnsM (w.alloc o) base e v l := by
  obtain ⟨g, cap, cur, fz, rfl, hb, hg, rest⟩ := h
  exact ⟨g, cap, cur, fz, rfl, hb, by rw [Below.heap_alloc w o g (Array.getElem?_eq_some_iff.1 hg).1]; exact hg, rest⟩

/-- 'append' of one byte. -/
theorem run_append_M {P : Program} (w : World) (base : Nat) (t ty e : TypeId) (i : TypeInfo) (ht : P.underlying t = some (.slice e)) (hi : P.info? e = some i) (hz : i.zero = some (.int .u8 0)) (hsize : i.size = 1) (hby : i.bytes = 1)
    (v : Value) (l : List UInt8) (hown : OwnsM w base e v l) (a : Addr) (c : Nat) (b : UInt8) (hnews : w.cell? (a.add 0) = some (.int .u8 (b.toNat : Nat))) (hn : l.length + 1 ≤ 1000000) (hbase : base ≤ w.heap.size) :
    ∃ v' w', (Builtin.append_ #[t, t] ty #[v, .slice (some a) 1 c]).run P w = .ok v' w' ∧ OwnsM w' base e v' (l ++ [b]) ∧ w.grownBy w' v.ownBlock := by
  have hcs := fun g hg => hown.cells (g := g) hg
  obtain ⟨g, cap, cur, fz, rfl, hbg, hg, hfz, hnc, hcm, hcz, htake⟩ := hown
  have hN : ∀ j u, [Value.int .u8 (b.toNat : Nat)][j]? = some u → w.cell? (a.add j) = some u := by
    intro j u hj
    match j, hj with
    | 0, hj => simp at hj; subst hj; exact hnews
  have hll : (Lib.byteCells l).length = l.length := length_byteCells l
  by_cases hroom : l.length + 1 ≤ cap
  · have hf := run_firstCells_some (P := P) w i.size 1 a 1 c [.int .u8 (b.toNat : Nat)] (by simp [hsize]) hN
    have hcell : w.cell? ⟨g, l.length, none⟩ = some cur[l.length] := by simp [World.cell?, hg, show l.length < cur.size by omega]
    have hfro : w.frozen? ⟨g, l.length, none⟩ = false := by
      obtain ⟨lo, hi'⟩ := fz
      simp only [World.frozen?, hg, Bool.and_eq_false_iff, decide_eq_false_iff_not]
      rcases hfz with h | h
      · simp at h; right; omega
      · simp only at h; left; omega
    have hst : (storeCells ⟨g, l.length, none⟩ [.int .u8 (b.toNat : Nat)] 0).run P w = .ok () (w.setRow g (cur.setIfInBounds l.length (.int .u8 (b.toNat : Nat)))) := by
      have hadd : (⟨g, l.length, none⟩ : Addr).add 0 = ⟨g, l.length, none⟩ := by unfold Addr.add; split <;> simp_all
      simp only [storeCells, Sem.run_bind, hadd, run_store P w _ (.int .u8 (b.toNat : Nat)) _ rfl, hcell]
      simp [hfro, setCell_eq_setRow w g l.length cur e fz _ hg]
    refine ⟨.slice (some ⟨g, 0, none⟩) (l.length + 1) cap, w.setRow g (cur.setIfInBounds l.length (.int .u8 (b.toNat : Nat))), ?_, ⟨g, cap, _, fz, by simp, hbg, setRow_heap w g cur _ e _ hg, ?_, by simpa using hroom, hcm, by simpa using hcz, ?_⟩, ⟨rfl, rfl, rfl, by simp, fun k _ hk => setRow_other w g k _ (fun e => hk (by simp [Value.ownBlock, e]))⟩⟩
    · simp [Builtin.append_, run_underlying ht, sizeOf, typeInfo, hi, hsize, Builtin.lenOf, hroom, Addr.add_lit]
      rw [hsize] at hf
      simp [hf, hst]
    · rcases hfz with h | h
      · exact .inl h
      · exact .inr (by simpa using h)
    · rw [Array.toList_setIfInBounds, List.length_append, List.length_singleton]
      have hlc : l.length < cur.toList.length := by simp; omega
      rw [List.take_succ_eq_append_getElem (by simpa using hlc), List.take_set_of_le (Nat.le_refl _), htake, List.getElem_set_self]
      simp [Lib.byteCells]
  · have holds : ∀ j u, (Lib.byteCells l)[j]? = some u → w.cell? ((⟨g, 0, none⟩ : Addr).add j) = some u := by
      intro j u hj
      have hjl : j < l.length := by rw [← hll]; exact (List.getElem?_eq_some_iff.1 hj).1
      have hadd : (⟨g, 0, none⟩ : Addr).add j = ⟨g, j, none⟩ := by unfold Addr.add; split <;> simp_all
      rw [hadd, hcs g rfl j hjl]
      simp [Lib.byteCells, hjl] at hj
      rw [← hj]
    have hr := run_append_grow (P := P) w t ty e i (.int .u8 0) ht hi hz ⟨g, 0, none⟩ l.length cap (Lib.byteCells l) (by simp [hll, hsize]) holds a 1 c [.int .u8 (b.toNat : Nat)] (by simp [hsize]) hN (by omega) (by omega) (by rw [hby]; exact growslice_fits (by omega) (by omega))
    have hge := grownCap_ge w (l.length + 1) cap e
    have hm : l.length + 1 ≤ maxLen := by unfold maxLen; omega
    have hcm2 : grownCap w (l.length + 1) cap e ≤ maxLen := grownCap_le_maxLen w (l.length + 1) cap e hm
    refine ⟨_, _, hr, ⟨w.heap.size, grownCap w (l.length + 1) cap e, _, (0, 0), by simp, hbase, heap_alloc_new w.drew _, .inl rfl, by simpa using hge, hcm2, ?_, ?_⟩, ⟨rfl, rfl, rfl, by simp, fun k hk _ => Below.heap_alloc w.drew _ k hk⟩⟩
    · have hz1 : (Value.int IntKind.u8 0).cells.size = 1 := rfl
      simp only [Array.size_append, List.size_toArray, size_zeroCells, hz1, hll, List.length_singleton]
      omega
    · have e1 : Lib.byteCells (l ++ [b]) = Lib.byteCells l ++ [.int .u8 (b.toNat : Nat)] := by simp [Lib.byteCells]
      have e2 : (l ++ [b]).length = (Lib.byteCells l ++ [Value.int .u8 (b.toNat : Nat)]).length := by simp [hll]
      rw [e1, e2]
      simp only [Array.toList_append, List.append_assoc]
      rw [← List.append_assoc]
      exact List.take_left

theorem wpList_append_M {P : Program} {w : World} {ops : Array Oper} {rest : List Oper} {o : Oper} {a : Act} {Q : Exit → Act → World → Prop} (hgd : o.guard = none) (s x : Operand) (t : TypeId)
    (ho : o.op = .call { callee := .builtin .append, args := #[s, x], argTypes := #[t, t] })
    (base : Nat) (e : TypeId) (i : TypeInfo) (ht : P.underlying t = some (.slice e)) (hi : P.info? e = some i) (hz : i.zero = some (.int .u8 0)) (hsize : i.size = 1) (hby : i.bytes = 1)
    (v : Value) (l : List UInt8) (hs : a.eval s = v) (hown : OwnsM w base e v l) (ad : Addr) (c : Nat) (b : UInt8) (hx : a.eval x = .slice (some ad) 1 c) (hnews : w.cell? (ad.add 0) = some (.int .u8 (b.toNat : Nat))) (hn : l.length + 1 ≤ 1000000) (hbase : base ≤ w.heap.size)
    (h : ∀ v' w', OwnsM w' base e v' (l ++ [b]) → w.grownBy w' v.ownBlock → wpList P ops Q rest (a.put o.dst v') w') : wpList P ops Q (o :: rest) a w := by
  refine wpList_plain hgd fun K hK => ?_
  obtain ⟨v', w', hr, h2, h3⟩ := run_append_M (P := P) w base t o.type e i ht hi hz hsize hby v l hown ad c b hnews hn hbase
  unfold Oper.wp execOp
  simp only [ho, resolve, invoke, builtin, Sem.run_bind, Sem.run_pure, Result.andThen_ok, List.map_toArray, List.map_cons, List.map_nil, hs, hx, hr]
  exact hK _ _ (h v' w' h2 h3)

/-- '[]byte(s)'. -/
theorem convert_M {P : Program} (src dst e : TypeId) (hs : P.underlying src = some .string) (hd : P.underlying dst = some (.slice e)) (he : P.underlying e = some (.int .u8)) (w : World) (s : ByteArray) (hz : s.size ≤ 1000000) :
    ∃ v W, (convert src dst (.string s)).run P w = .ok v W ∧ OwnsM W w.heap.size e v s.data.toList ∧ Below w.heap.size w W ∧ W.heap.size = w.heap.size + 1 := by
  have hge := grownCap_ge w s.size 0 e
  have hm : s.size ≤ maxLen := by unfold maxLen; omega
  have hl : s.data.toList.length = s.size := rfl
  have hsz : (bytesRow s (grownCap w s.size 0 e)).size = grownCap w s.size 0 e := by
    have : s.data.size = s.size := rfl
    simp [bytesRow, this]; omega
  refine ⟨_, _, run_bytes_of_string w src dst e s hs hd he, ⟨w.heap.size, grownCap w s.size 0 e, bytesRow s (grownCap w s.size 0 e), ((bytesRow s (grownCap w s.size 0 e)).size, (bytesRow s (grownCap w s.size 0 e)).size + 1), by rw [hl], Nat.le_refl _, ?_, .inr (Nat.le_refl _), by rw [hl]; exact hge, grownCap_le_maxLen w s.size 0 e hm, hsz, ?_⟩, (Below.refl w.heap.size w).drew.alloc (Nat.le_refl _) _, by simp⟩
  · show (w.heap.push _)[w.heap.size]? = _
    simp
  · rw [hl]
    have e1 : (bytesRow s (grownCap w s.size 0 e)).toList = Lib.byteCells s.data.toList ++ List.replicate (grownCap w s.size 0 e - s.size) (.int .u8 0) := by
      simp [bytesRow, Lib.byteCells]
    rw [e1, List.take_append_of_le_length (by rw [length_byteCells, hl]; exact Nat.le_refl _), List.take_of_length_le (by rw [length_byteCells, hl]; exact Nat.le_refl _)]
end Go.Proofs.Ytkanhjafchiikaa.Mem
