/- A frame as eight cells, and when it is right. -/
import Derived.Test.YtjgkekgieodhnaaSpreadPure
namespace Go.Proofs.Ytjgkekgieodhnaa.Frm
open Go.RowKit Go.Proofs.Ytjgkekgieodhnaa.Gf

/-- A frame: its six numbers, its shard's Index and its Data. -/
structure Fr where
  o : Int
  g : Int
  gs : Int
  n : Int
  m : Int
  s : Int
  x : Int
  t : ByteArray
def Fr.val (f : Fr) : Value := .agg #[.int .i64 f.o, .int .i64 f.g, .int .i64 f.gs, .int .i64 f.n, .int .i64 f.m, .int .i64 f.s, .int .i64 f.x, .string f.t]
def Fr.right (f : Fr) : Bool := isB f.o 1 1000000 && isB f.gs 1 9 && isB f.g 0 (f.gs - 1) && fineB f.n f.m f.s && isB f.x 0 (f.n + f.m - 1) && decide (f.t.size = plen f.n.toNat f.s.toNat)
theorem isB_iff {n l h : Int} : isB n l h = true ↔ l ≤ n ∧ n ≤ h := by simp [isB]
theorem isB_no {n l h : Int} : isB n l h = false ↔ ¬ (l ≤ n ∧ n ≤ h) := by simp [isB]
/-- where the first fault lies -/
theorem Fr.cases (f : Fr) : (isB f.o 1 1000000 = false ∧ f.right = false) ∨ (isB f.o 1 1000000 = true ∧ isB f.gs 1 9 = false ∧ f.right = false) ∨ (isB f.o 1 1000000 = true ∧ isB f.gs 1 9 = true ∧ isB f.g 0 (f.gs - 1) = false ∧ f.right = false) ∨ (isB f.o 1 1000000 = true ∧ isB f.gs 1 9 = true ∧ isB f.g 0 (f.gs - 1) = true ∧ fineB f.n f.m f.s = false ∧ f.right = false) ∨ (isB f.o 1 1000000 = true ∧ isB f.gs 1 9 = true ∧ isB f.g 0 (f.gs - 1) = true ∧ fineB f.n f.m f.s = true ∧ isB f.x 0 (f.n + f.m - 1) = false ∧ f.right = false) ∨ (isB f.o 1 1000000 = true ∧ isB f.gs 1 9 = true ∧ isB f.g 0 (f.gs - 1) = true ∧ fineB f.n f.m f.s = true ∧ isB f.x 0 (f.n + f.m - 1) = true ∧ f.right = decide (f.t.size = plen f.n.toNat f.s.toNat)) := by
  unfold Fr.right
  cases isB f.o 1 1000000 <;> cases isB f.gs 1 9 <;> cases isB f.g 0 (f.gs - 1) <;> cases fineB f.n f.m f.s <;> cases isB f.x 0 (f.n + f.m - 1) <;> simp
end Go.Proofs.Ytjgkekgieodhnaa.Frm
