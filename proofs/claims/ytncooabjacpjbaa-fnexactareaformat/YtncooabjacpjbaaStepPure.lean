/- The steps by which a text comes to a disk: what they come to. -/
import Derived.Test.YtncooabjacpjbaaFnDiskBase
import Derived.Test.YtncooabjacpjbaaAreaOuts
namespace Go.Proofs.Ytncooabjacpjbaa.Disk
open Go.RowKit Go.Proofs.Ytncooabjacpjbaa.Mem Go.Proofs.Ytncooabjacpjbaa.Harn Go.Proofs.Ytncooabjacpjbaa.DiskP

/-- A step: a flush, or a write of a sector. -/
abbrev Step := Bool × Int × ByteArray
def stepO (ls : List ByteArray) (lp : List (Int × ByteArray)) (y : Step) : Out := if y.1 = true then flushO ls lp else writeO ls lp y.2.1 y.2.2
/-- One step behind the other, up to the first that tells a code. -/
def runO (ls : List ByteArray) (lp : List (Int × ByteArray)) : List Step → AOut
  | [] => ⟨ls, lp, ByteArray.empty, 0, 0⟩
  | y :: r => if (stepO ls lp y).c = 0 then runO (stepO ls lp y).ls (stepO ls lp y).lp r else illA (stepO ls lp y).c
theorem stepO_fits (ls : List ByteArray) (lp : List (Int × ByteArray)) (y : Step) : Fits (stepO ls lp y).ls (stepO ls lp y).lp := by
  unfold stepO
  split
  · exact (flushO_flushed ls lp).f
  · exact (writeO_wrote ls lp y.2.1 y.2.2).f
theorem runO_drop (ls : List ByteArray) (lp : List (Int × ByteArray)) (σ : List Step) (k : Nat) (h : k < σ.length) : runO ls lp (σ.drop k) = if (stepO ls lp σ[k]).c = 0 then runO (stepO ls lp σ[k]).ls (stepO ls lp σ[k]).lp (σ.drop (k + 1)) else illA (stepO ls lp σ[k]).c := by
  rw [List.drop_eq_getElem_cons h]
  rfl
theorem runO_end (ls : List ByteArray) (lp : List (Int × ByteArray)) (σ : List Step) (k : Nat) (h : σ.length ≤ k) : runO ls lp (σ.drop k) = ⟨ls, lp, ByteArray.empty, 0, 0⟩ := by
  rw [List.drop_eq_nil_of_le h]
  rfl
theorem runO_fits (σ : List Step) : ∀ (ls : List ByteArray) (lp : List (Int × ByteArray)), Fits ls lp → Fits (runO ls lp σ).ls (runO ls lp σ).lp := by
  induction σ with
  | nil => intro ls lp h; exact h
  | cons y r ih =>
    intro ls lp h
    unfold runO
    split
    · exact ih _ _ (stepO_fits ls lp y)
    · exact fits_nil
/-- The slice v reads as the steps l. -/
def Steps (W : World) (v : Value) (l : List Step) : Prop :=
  ∃ a cap, v = .slice a l.length cap ∧ ∀ j (h : j < l.length), ∃ b o, a = some ⟨b, o, none⟩ ∧ W.cell? ⟨b, o + j * 3, none⟩ = some (.bool l[j].1) ∧ W.cell? ⟨b, o + j * 3 + 1, none⟩ = some (.int .i64 l[j].2.1) ∧ W.cell? ⟨b, o + j * 3 + 2, none⟩ = some (.string l[j].2.2)
theorem Steps.below {W W' : World} {v : Value} {l : List Step} (h : Steps W v l) (hb : Below W.heap.size W W') : Steps W' v l := by
  obtain ⟨a, cap, hv, hc⟩ := h
  refine ⟨a, cap, hv, fun j hj => ?_⟩
  obtain ⟨b, o, ha, h1, h2, h3⟩ := hc j hj
  refine ⟨b, o, ha, ?_, ?_, ?_⟩
  · rw [hb.cell (World.block_lt_of_cell? W _ h1)]; exact h1
  · rw [hb.cell (World.block_lt_of_cell? W _ h2)]; exact h2
  · rw [hb.cell (World.block_lt_of_cell? W _ h3)]; exact h3

theorem box2_set {W : World} {g : Nat} {vs vp us up : Value} (h : Box2 W g vs vp) : Box2 ((W.setCell ⟨g, 0, none⟩ us).setCell ⟨g, 1, none⟩ up) g us up := row_set (row_set h 0 us) 1 up
theorem onlyA_set1 (W : World) (b o : Nat) (v0 : Value) : Only (fun k => k = b) W (W.setCell ⟨b, o, none⟩ v0) := ⟨rfl, rfl, rfl, by simp, fun k _ hk => Below.heap_setCell _ _ _ _ hk⟩
theorem onlyA_set2 {W : World} {b : Nat} {v0 v1 : Value} : Only (fun k => k = b) W ((W.setCell ⟨b, 0, none⟩ v0).setCell ⟨b, 1, none⟩ v1) := (onlyA_set1 W b 0 v0).trans (onlyA_set1 _ b 1 v1)
theorem onlyA_set5 {W : World} {b : Nat} {v0 v1 v2 v3 v4 : Value} : Only (fun k => k = b) W (((((W.setCell ⟨b, 0, none⟩ v0).setCell ⟨b, 1, none⟩ v1).setCell ⟨b, 2, none⟩ v2).setCell ⟨b, 3, none⟩ v3).setCell ⟨b, 4, none⟩ v4) :=
  (((onlyA_set2.trans (onlyA_set1 _ b 2 v2)).trans (onlyA_set1 _ b 3 v3)).trans (onlyA_set1 _ b 4 v4))
end Go.Proofs.Ytncooabjacpjbaa.Disk
