/- A map of pending writes by their places, told by what stands at each place. -/
import Derived.Test.YtncooabjacpjbaaHarnDisk
import Derived.Maps.OwnSet
namespace Go.Proofs.Ytncooabjacpjbaa.Disk
open Go.RowKit Go.Proofs.Ytncooabjacpjbaa.Mem Go.Proofs.Ytncooabjacpjbaa.Harn Go.Maps

/-- A pending write as a value, and as it is read. -/
def pv (y : Int × ByteArray) : Value := .agg #[.int .i64 y.1, .string y.2]
def pd (y : Int × ByteArray) : DataW Unit := .agg [.lit (.int .i64 y.1), .lit (.string y.2.data.toList)]
def pendElem (v : Value) : Option (DataW Unit × List MemPlace) := match v with
  | .agg cs => (match cs.toList with
    | [.int .i64 a, .string s] => some (pd (a, s), [])
    | _ => none)
  | _ => none
theorem pendElem_mk (y : Int × ByteArray) : pendElem (pv y) = some (pd y, []) := rfl
theorem pendElem_inv {v : Value} {y : Int × ByteArray} {ps : List MemPlace} (h : pendElem v = some (pd y, ps)) : v = pv y := by
  unfold pendElem at h
  split at h
  · rename_i cs
    split at h
    · rename_i a s e
      simp only [Option.some.injEq, Prod.mk.injEq, pd, DataW.agg.injEq, List.cons.injEq, DataW.lit.injEq, Lit.int.injEq, Lit.string.injEq, true_and, and_true] at h
      obtain ⟨⟨h1, h2⟩, _⟩ := h
      have e2 : s = y.2 := ByteArray.ext (Array.toList_inj.1 h2)
      have e3 : cs = #[.int .i64 a, .string s] := Array.toList_inj.1 e
      rw [e3, h1, e2]
      rfl
    · cases h
  · cases h

def zp : Int × ByteArray := (0, ByteArray.empty)
theorem zeroP (w : World) : (zeroValue 63).run Try.prog w = .ok (pv zp) w := by kernel_rfl
theorem keyLaw : Keyed Try.prog 2 := int_keyed Try.underlying2
theorem keyI {x : Int} (h : (Lit.int .i64 x).wf = true) : keyOf Try.prog 2 (.int .i64 x) = some (.int .i64 x) := keyOf_int_mk Try.underlying2 h

/-- Block b is a map that has at each place x what f says. -/
def HasMap (W : World) (b n : Nat) (f : Int → Option (Int × ByteArray)) : Prop :=
  ∃ D : DataW Unit, W.ownsMap Try.prog 2 pendElem b n D ∧ ∀ x, (Lit.int .i64 x).wf = true → Maps.has D (.int .i64 x) = (f x).isSome ∧ ∀ z, D.atKey (.int .i64 x) z = (match f x with | some y => pd y | none => z)

theorem HasMap.lt {W : World} {b n : Nat} {f : Int → Option (Int × ByteArray)} (h : HasMap W b n f) : b < W.heap.size := by
  obtain ⟨D, h, _⟩ := h
  exact h.lt
theorem HasMap.kept {W W' : World} {b n : Nat} {f : Int → Option (Int × ByteArray)} (h : HasMap W b n f) (hb : W'.heap[b]? = W.heap[b]?) : HasMap W' b n f := by
  obtain ⟨D, ⟨es, clock, h1, h2⟩, h3⟩ := h
  exact ⟨D, ⟨es, clock, hb.trans h1, h2⟩, h3⟩
theorem map_made (w : World) : HasMap (w.alloc (.map #[] 0)) w.heap.size 0 (fun _ => none) :=
  ⟨.map [], World.ownsMap_made _ _ _ _, fun _ _ => ⟨rfl, fun _ => rfl⟩⟩

theorem map_look {W : World} {b n : Nat} {f : Int → Option (Int × ByteArray)} (h : HasMap W b n f) {x : Int} (hx : (Lit.int .i64 x).wf = true) :
    (Instr.lookup 82 (.map (some b)) (.int .i64 x) true).run Try.prog W = .ok (.tuple #[pv ((f x).getD zp), .bool (f x).isSome]) W := by
  obtain ⟨D, hD, hf⟩ := h
  obtain ⟨v, ps, hr, hv⟩ := hD.look_ok keyLaw Try.underlying82 (zeroP W) (pendElem_mk zp) (keyI hx)
  obtain ⟨h1, h2⟩ := hf x hx
  rw [h2 (pd zp)] at hv
  rw [hr, h1]
  cases e : f x with
  | none => rw [e] at hv; rw [pendElem_inv hv]; rfl
  | some y => rw [e] at hv; rw [pendElem_inv hv]; rfl

theorem map_store {W : World} {b n : Nat} {f : Int → Option (Int × ByteArray)} (h : HasMap W b n f) (hn : n < maxLen) {x : Int} (hx : (Lit.int .i64 x).wf = true) (y : Int × ByteArray) :
    ∃ W', (Instr.mapUpdate 82 (.map (some b)) (.int .i64 x) (pv y)).run Try.prog W = .ok () W' ∧ HasMap W' b (n + 1) (fun z => if x = z then some y else f z) ∧ W.grownBy W' (some b) := by
  obtain ⟨D, hD, hf⟩ := h
  obtain ⟨W', hr, h1, h2⟩ := hD.update keyLaw Try.underlying82 hn (keyI hx) (pendElem_mk y)
  refine ⟨W', hr, ⟨_, h1, fun z hz => ?_⟩, h2⟩
  by_cases e : x = z
  · subst e
    refine ⟨by simpa using has_put_same hD.isMap (keyLaw.key (keyI hx)) _, fun d => ?_⟩
    rw [atKey_put_same hD.isMap (keyLaw.key (keyI hx))]
    simp
  · have e2 : (Lit.int .i64 z : Lit) ≠ .int .i64 x := fun h => e (by injection h with _ h2; exact h2.symm)
    refine ⟨?_, fun d => ?_⟩
    · rw [has_put_other e2, (hf z hz).1]; simp [e]
    · rw [atKey_put_other e2, (hf z hz).2 d]; simp [e]

theorem map_drop {W : World} {b n : Nat} {f : Int → Option (Int × ByteArray)} (h : HasMap W b n f) {x : Int} (hx : (Lit.int .i64 x).wf = true) (ty : TypeId) :
    ∃ W', (Builtin.delete_ #[82, 2] ty #[.map (some b), .int .i64 x]).run Try.prog W = .ok (.tuple #[]) W' ∧ HasMap W' b n (fun z => if x = z then none else f z) ∧ W.grownBy W' (some b) := by
  obtain ⟨D, hD, hf⟩ := h
  obtain ⟨W', hr, h1, h2⟩ := hD.drop keyLaw Try.underlying82 (keyI hx) ty
  refine ⟨W', hr, ⟨_, h1, fun z hz => ?_⟩, h2.grown⟩
  by_cases e : x = z
  · subst e
    refine ⟨by simpa using has_del_same, fun d => ?_⟩
    rw [atKey_del_same]
    simp
  · have e2 : (Lit.int .i64 z : Lit) ≠ .int .i64 x := fun h => e (by injection h with _ h2; exact h2.symm)
    refine ⟨?_, fun d => ?_⟩
    · rw [has_del_other e2, (hf z hz).1]; simp [e]
    · rw [atKey_del_other e2, (hf z hz).2 d]; simp [e]

/-! ### at the operation, for the walk -/
section
variable (w : World) {ops : Array Oper} {rest : List Oper} {o : Oper} {a : Act} {Q : Exit → Act → World → Prop}
theorem wp_map_store (hg : o.guard = none) (m x v : Operand) (hop : o.op = Op.mapUpdate 82 m x v) (b n : Nat) (f : Int → Option (Int × ByteArray)) (h : HasMap w b n f) (hn : n < maxLen) (k : Int) (y : Int × ByteArray)
    (hm : a.eval m = .map (some b)) (hx : a.eval x = .int .i64 k) (hv : a.eval v = pv y) (hk : (Lit.int .i64 k).wf = true)
    (hK : ∀ w', HasMap w' b (n + 1) (fun z => if k = z then some y else f z) → w.grownBy w' (some b) → wpList Try.prog ops Q rest (a.put o.dst undef) w') : wpList Try.prog ops Q (o :: rest) a w := by
  refine wpList_plain hg fun K' hK' => ?_
  obtain ⟨w', hrun, r1, r2⟩ := map_store h hn hk y
  unfold Oper.wp
  simp [execOp, hop, hm, hx, hv, hrun, Result.andThen]
  exact hK' _ _ (hK w' r1 r2)
theorem wp_map_drop (hg : o.guard = none) (m x : Operand) (hop : o.op = Op.call { callee := Callee.builtin Builtin.delete, args := #[m, x], argTypes := #[82, 2] }) (b n : Nat) (f : Int → Option (Int × ByteArray)) (h : HasMap w b n f) (k : Int)
    (hm : a.eval m = .map (some b)) (hx : a.eval x = .int .i64 k) (hk : (Lit.int .i64 k).wf = true)
    (hK : ∀ w', HasMap w' b n (fun z => if k = z then none else f z) → w.grownBy w' (some b) → wpList Try.prog ops Q rest (a.put o.dst (.tuple #[])) w') : wpList Try.prog ops Q (o :: rest) a w := by
  refine wpList_plain hg fun K' hK' => ?_
  obtain ⟨w', hrun, r1, r2⟩ := map_drop h hk o.type
  unfold Oper.wp
  simp [execOp, hop, resolve, invoke, builtin, hm, hx, hrun, Result.andThen]
  exact hK' _ _ (hK w' r1 r2)
end
end Go.Proofs.Ytncooabjacpjbaa.Disk
