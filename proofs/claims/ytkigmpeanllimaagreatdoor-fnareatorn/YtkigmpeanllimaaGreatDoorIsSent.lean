/- What errors.Is answers of the package's own errors, and areaCode by it. -/
import Derived.Test.YtkigmpeanllimaaGreatDoorRows
import Derived.WalkKit
import Derived.LaidEql
import Derived.Stop.Asserts
import Derived.RowKitTokens
import Derived.Below
namespace Go.Proofs.YtkigmpeanllimaaGreatDoor.Sent
open Go.RowKit Go.Extern.Stop Go.Stop Go.Extern

theorem typeOfE (v : Value) (w : World) : (ReflectliteType.typeOf #[.iface 157 v]).run Tryz.prog w = .ok (.iface 120 (.agg #[.pointer (some ⟨7, 157, none⟩)])) w := by kernel_rfl
theorem comparableE (w : World) : ((ReflectliteType.method fun t => do Rtype.noPackHeld "Comparable" t; pure (.bool (← typeInfo t).comparable)) #[.agg #[.pointer (some ⟨7, 157, none⟩)]]).run Tryz.prog w = .ok (.bool true) w := by kernel_rfl
theorem callComparable (w : World) : Sem.run Tryz.prog (callFunc 121 #[.agg #[.pointer (some ⟨7, 157, none⟩)]]) w = .ok (.value (.bool true)) w := by
  rw [@run_callFunc_extern Tryz.prog 121 _ (ReflectliteType.method fun t => do Rtype.noPackHeld "Comparable" t; pure (.bool (← typeInfo t).comparable)) Tryz.func121 (by kernel_rfl) (by kernel_rfl) (by kernel_rfl) (by kernel_rfl), comparableE]
  rfl
theorem methodComparable (v : Value) (w : World) : (Go.method 290 120 v "Comparable").run Tryz.prog w = .ok (121, v) w := by kernel_rfl
theorem compE : (Tryz.prog.info? 157).map (fun i => i.comparable) = some true := by kernel_rfl
theorem sizeE : (Tryz.prog.info? 178).map (fun i => i.size) = some 1 := by kernel_rfl
theorem noIs (v : Value) (xT : TypeId) (w : World) : (Instr.typeAssert (.iface 157 v) xT 122 true).run Tryz.prog w = .ok (.tuple #[.nilIface, .bool false]) w := run_typeAssert_lacksB Tryz.underlying122 (by kernel_rfl) (by kernel_rfl) v xT w
theorem noUnwrap (v : Value) (xT : TypeId) (w : World) : (Instr.typeAssert (.iface 157 v) xT 125 true).run Tryz.prog w = .ok (.tuple #[.nilIface, .bool false]) w := run_typeAssert_lacksB Tryz.underlying125 (by kernel_rfl) (by kernel_rfl) v xT w
theorem noUnwraps (v : Value) (xT : TypeId) (w : World) : (Instr.typeAssert (.iface 157 v) xT 127 true).run Tryz.prog w = .ok (.tuple #[.nilIface, .bool false]) w := run_typeAssert_lacksB Tryz.underlying127 (by kernel_rfl) (by kernel_rfl) v xT w

theorem isSame (a : Addr) (w : World) :
    Calls Tryz.prog 59 #[.iface 157 (.pointer (some a)), .iface 157 (.pointer (some a))] w fun e w' => e = .returned (.bool true) ∧ w = w' := by
  obtain ⟨i, hi, hcmp⟩ := Option.map_eq_some_iff.1 compE
  obtain ⟨j, hj, hjs⟩ := Option.map_eq_some_iff.1 sizeE
  have h8 := @run_callFunc_extern Tryz.prog 76 _ ReflectliteType.typeOf Tryz.func76 (by kernel_rfl) (by kernel_rfl) (by kernel_rfl) (by kernel_rfl)
  have tT := typeOfE
  have cT := callComparable
  have mR := methodComparable
  have heq := run_eql_iface_ptr_same (P := Tryz.prog) w a Tryz.underlying51 Tryz.underlying157 hi hcmp hj
  go_enter Tryz.func59, Tryz.ntmps59
  go_wp2
  refine wp_loop_rounds 1 ?_
  rw [rounds_succ]
  go_wp2
  go_ret
  exact ⟨rfl, rfl⟩
theorem isNil (b : Addr) (w : World) :
    Calls Tryz.prog 59 #[.nilIface, .iface 157 (.pointer (some b))] w fun e w' => e = .returned (.bool false) ∧ w = w' := by
  have hn := run_eql_iface_nil_left (P := Tryz.prog) w 157 (.pointer (some b)) Tryz.underlying51
  go_enter Tryz.func59, Tryz.ntmps59
  go_wp2
  go_ret
  exact ⟨rfl, rfl⟩
theorem isOther (a b : Addr) (ca cb : Array Value) (ta tb : TypeId) (w : World) (hne : a ≠ b) (ha : w.heap[a.block]? = some (.cells ca ta (0, 0))) (hb : w.heap[b.block]? = some (.cells cb tb (0, 0))) :
    Calls Tryz.prog 59 #[.iface 157 (.pointer (some a)), .iface 157 (.pointer (some b))] w fun e w' => e = .returned (.bool false) ∧ w = w' := by
  obtain ⟨i, hi, hcmp⟩ := Option.map_eq_some_iff.1 compE
  obtain ⟨j, hj, hjs⟩ := Option.map_eq_some_iff.1 sizeE
  have h8 := @run_callFunc_extern Tryz.prog 76 _ ReflectliteType.typeOf Tryz.func76 (by kernel_rfl) (by kernel_rfl) (by kernel_rfl) (by kernel_rfl)
  have tT := typeOfE
  have cT := callComparable
  have mR := methodComparable
  have nE := noIs
  have uE := noUnwrap
  have vE := noUnwraps
  have heq := run_eql_iface_ptr_other (P := Tryz.prog) w Tryz.underlying51 Tryz.underlying157 hi hcmp hj (by rw [hjs]; decide) hne ha hb
  go_enter Tryz.func59, Tryz.ntmps59
  go_wp2
  refine wp_loop_rounds 1 ?_
  rw [rounds_succ]
  go_wp2
  go_ret
  exact ⟨rfl, rfl⟩

/-- Where the package's errors lie. -/
structure SentsLaid (w : World) (A : Nat → Addr) (L : List Nat) : Prop where
  v : ∀ g ∈ L, w.cell? ⟨g, 0, none⟩ = some (.iface 157 (.pointer (some (A g))))
  h : ∀ g ∈ L, ∃ c t, w.heap[(A g).block]? = some (.cells c t (0, 0))
  d : ∀ g ∈ L, ∀ k ∈ L, g ≠ k → A g ≠ A k
theorem SentsLaid.below {w w' : World} {A : Nat → Addr} {L : List Nat} (h : SentsLaid w A L) (hb : Below w.heap.size w w') : SentsLaid w' A L := by
  refine ⟨fun g hg => ?_, fun g hg => ?_, h.d⟩
  · have h1 := h.v g hg
    exact (hb.cell (World.block_lt_of_cell? w _ h1)).trans h1
  · obtain ⟨c, t, h1⟩ := h.h g hg
    have hlt : (A g).block < w.heap.size := by
      rcases Nat.lt_or_ge (A g).block w.heap.size with hlt | hge
      · exact hlt
      · rw [Array.getElem?_eq_none hge] at h1; cases h1
    exact ⟨c, t, (hb.block _ hlt).trans h1⟩
/-- An error of the package, or none. -/
def errV (A : Nat → Addr) : Option Nat → Value
  | none => .nilIface
  | some g => .iface 157 (.pointer (some (A g)))
theorem errIs_any (A : Nat → Addr) (L : List Nat) (x : Option Nat) (g : Nat) (w : World) (h : SentsLaid w A L) (hx : ∀ k, x = some k → k ∈ L) (hg : g ∈ L) :
    Calls Tryz.prog 59 #[errV A x, .iface 157 (.pointer (some (A g)))] w fun e w' => e = .returned (.bool (decide (x = some g))) ∧ w = w' := by
  cases x with
  | none => exact isNil (A g) w
  | some k =>
    by_cases e : k = g
    · subst e
      have : decide (some k = some k) = true := by simp
      rw [this]
      exact isSame (A k) w
    · have : decide (some k = some g) = false := by simp [e]
      rw [this]
      obtain ⟨c, t, h1⟩ := h.h k (hx k rfl)
      obtain ⟨c2, t2, h2⟩ := h.h g hg
      exact isOther (A k) (A g) c c2 t t2 w (h.d k (hx k rfl) g hg e) h1 h2
end Go.Proofs.YtkigmpeanllimaaGreatDoor.Sent
