/- Whole arrays out of and into a row. -/
import Derived.Test.YtfpgobkedfhakaaMemLaws
import Derived.Deep.WholeRow
namespace Go.Proofs.Ytfpgobkedfhakaa.Mem
open Go.RowKit

theorem load_row {P : Program} {W : World} {g : Nat} {cs : List Value} {T : TypeId} {n : Nat} {e : TypeId} (h : HasRow W g cs T) (hu : P.underlying T = some (.array n e)) (hi : (P.info? T).map (·.size) = some cs.length) :
    (loadVar T ⟨g, 0, none⟩).run P W = .ok (.agg cs.toArray) W :=
  run_loadVar_row _ _ T T cs.toArray (0, 0) _ h hu rfl (by simpa using hi)
theorem loadAt_row {P : Program} {W : World} {g : Nat} {cs : List Value} {T : TypeId} {n : Nat} {e : TypeId} (h : HasRow W g cs T) (hu : P.underlying T = some (.array n e)) (hi : (P.info? T).map (·.size) = some cs.length) :
    (Instr.loadAt T (.pointer (some ⟨g, 0, none⟩))).run P W = .ok (.agg cs.toArray) W := by
  simp only [Instr.loadAt, Instr.sureAddr, Sem.run_bind, Sem.run_pure, Result.andThen]
  exact load_row h hu hi
theorem store_row {P : Program} {W : World} {g : Nat} {cs cs' : List Value} {T : TypeId} (h : HasRow W g cs T) (hi : (P.info? T).map (·.size) = some cs'.length) (ho : cs.length = cs'.length) (h1 : ∀ v ∈ cs', v.oneCell' = true) :
    ∃ W', (Instr.storeAt T (.pointer (some ⟨g, 0, none⟩)) (.agg cs'.toArray)).run P W = .ok () W' ∧ HasRow W' g cs' T ∧ (∀ k, k ≠ g → W'.heap[k]? = W.heap[k]?) ∧ (∀ B w, B ≤ g → Below B w W → Below B w W') ∧ W'.heap.size = W.heap.size := by
  have hs := run_storeVar_row (P := P) W g T T cs.toArray cs'.toArray h (by simpa using hi) (by simpa using ho) (Array.all_eq_true_iff_forall_mem.2 (fun v hv => h1 v (by simpa using hv)))
  refine ⟨W.setRow g cs'.toArray, ?_, ?_, ?_, ?_, by simp [World.setRow]⟩
  · simp only [Instr.storeAt, Instr.sureAddr, Sem.run_bind, Sem.run_pure, Result.andThen]
    exact hs
  · exact setRow_heap W g _ cs'.toArray T _ h
  · intro k hk
    simp [World.setRow, Array.getElem?_modify, Ne.symm hk]
  · intro B w hB hb
    exact below_setRow hb hB _

theorem row_load_wp {P : Program} {ops : Array Oper} {rest : List Oper} {op : Oper} {a : Act} {w : World} {Q : Exit → Act → World → Prop} (hgd : op.guard = none) (ty : TypeId) (x : Operand) (ho : op.op = .load ty x)
    (g : Nat) (hx : a.eval x = .pointer (some ⟨g, 0, none⟩)) {cs : List Value} {n : Nat} {e : TypeId} (hr : HasRow w g cs ty) (hu : P.underlying ty = some (.array n e)) (hi : (P.info? ty).map (·.size) = some cs.length)
    (h : wpList P ops Q rest (a.put op.dst (.agg cs.toArray)) w) : wpList P ops Q (op :: rest) a w :=
  wpList_plain hgd fun _ hK => by
    unfold Oper.wp execOp
    simp only [ho, hx, Instr.loadAt, Instr.sureAddr, Sem.run_bind, Sem.run_pure, Result.andThen_ok, load_row hr hu hi]
    exact hK _ _ h
theorem row_store_wp {P : Program} {ops : Array Oper} {rest : List Oper} {op : Oper} {a : Act} {w : World} {Q : Exit → Act → World → Prop} (hgd : op.guard = none) (ty : TypeId) (x y : Operand) (ho : op.op = .store ty x y)
    (g : Nat) (hx : a.eval x = .pointer (some ⟨g, 0, none⟩)) {cs cs' : List Value} (hy : a.eval y = .agg cs'.toArray) (hr : HasRow w g cs ty) (hi : (P.info? ty).map (·.size) = some cs'.length) (ho2 : cs.length = cs'.length) (h1 : ∀ v ∈ cs', v.oneCell' = true)
    (h : ∀ W', HasRow W' g cs' ty → (∀ k, k ≠ g → W'.heap[k]? = w.heap[k]?) → (∀ B u, B ≤ g → Below B u w → Below B u W') → W'.heap.size = w.heap.size → wpList P ops Q rest (a.put op.dst undef) W') : wpList P ops Q (op :: rest) a w := by
  obtain ⟨W', hst, h2, h3, h4, h5⟩ := store_row (P := P) hr hi ho2 h1
  refine wpList_plain hgd fun _ hK => ?_
  unfold Oper.wp execOp
  simp only [ho, hx, hy, hst, Sem.run_bind, Result.andThen_ok]
  exact hK _ _ (h W' h2 h3 h4 h5)

/-- A result that lies in a variable. -/
theorem results_cell {P : Program} {fn : Func} {tmps : Array Value} {w : World} {v : Value} {a : Nat} {t : TypeId} {p : Addr} (hf : fn.results = #[.cell a t]) (ha : tmps.getD a undef = .pointer (some p)) (hl : (loadVar t p).run P w = .ok v w) :
    (results fn tmps).run P w = .ok v w := by
  unfold results
  rw [hf]
  have ha2 : tmps[a]?.getD undef = .pointer (some p) := by simpa [Array.getD_eq_getD_getElem?] using ha
  simp [ha2, hl, asAddr]
end Go.Proofs.Ytfpgobkedfhakaa.Mem
