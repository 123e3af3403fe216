/- What the model's DiskNew and l03Ill answer. -/
import Derived.Test.YtncooabjacpjbaaSpecCopy
import Derived.Test.YtncooabjacpjbaaDiskOuts
import Derived.Test.YtncooabjacpjbaaBoxes
import Derived.Test.YtncooabjacpjbaaAppOne
namespace Go.Proofs.Ytncooabjacpjbaa.Disk
open Go.RowKit Go.Proofs.Ytncooabjacpjbaa.Mem Go.Proofs.Ytncooabjacpjbaa.Harn Go.Proofs.Ytncooabjacpjbaa.DiskP

/-- A call told o; of the disk's pending writes it is known besides that they own their row. -/
def ToldP (w : World) (o : Out) (e : Ending) (w' : World) : Prop := ∃ us up, e = .returned (outV us up o.t o.c) ∧ Own w' w.heap.size w'.heap.size us up o.ls o.lp ∧ Below w.heap.size w w' ∧ OwnP w' w.heap.size up o.lp ∧ (o.lp.length = 0 → up = .slice none 0 0)
def ToldDP (w : World) (ls : List ByteArray) (lp : List (Int × ByteArray)) (e : Ending) (w' : World) : Prop := ∃ us up, e = .returned (.agg #[us, up]) ∧ Own w' w.heap.size w'.heap.size us up ls lp ∧ Below w.heap.size w w' ∧ OwnP w' w.heap.size up lp ∧ (lp.length = 0 → up = .slice none 0 0)
theorem ToldP.told {w : World} {o : Out} {e : Ending} {w' : World} (h : ToldP w o e w') : Told w o e w' := by
  obtain ⟨us, up, h1, h2, h3, _⟩ := h
  exact ⟨us, up, h1, h2, h3⟩
theorem ToldDP.told {w : World} {ls : List ByteArray} {lp : List (Int × ByteArray)} {e : Ending} {w' : World} (h : ToldDP w ls lp e w') : ToldD w ls lp e w' := by
  obtain ⟨us, up, h1, h2, h3, _⟩ := h
  exact ⟨us, up, h1, h2, h3⟩

theorem ill_any (c : Int) (w : World) : Calls Try.prog 40 #[.int .i64 c] w fun e w' => e = .returned (outV (.slice none 0 0) (.slice none 0 0) ByteArray.empty c) ∧ Below w.heap.size w w' := by
  go_enter Try.func40, Try.ntmps40
  go_wp2_with fail
  refine bodyPost_ret (v := outV (.slice none 0 0) (.slice none 0 0) ByteArray.empty c) (by simp [results, Try.results40, go_sem]; rfl) rfl ⟨rfl, ?_⟩
  repeat' (first | exact (Below.refl _ _).alloc (Nat.le_refl _) _ | refine Below.setCell ?_ (by simp) _)

end Go.Proofs.Ytncooabjacpjbaa.Disk
