/- What the model's DiskRight answers. -/
import Derived.Test.YtfpgobkedfhakaaHarnDisk
namespace Go.Proofs.Ytfpgobkedfhakaa.Disk
open Go.RowKit Go.Proofs.Ytfpgobkedfhakaa.Mem Go.Proofs.Ytfpgobkedfhakaa.Harn

/-- A pending write that may stand on a disk of so many sectors. -/
def okP (n : Nat) (y : Int × ByteArray) : Prop := 0 ≤ y.1 ∧ y.1 < n ∧ y.2.size ≤ 64
/-- Is the disk right? -/
def Right (ls : List ByteArray) (lp : List (Int × ByteArray)) : Prop := 1 ≤ ls.length ∧ ls.length ≤ 64 ∧ lp.length ≤ 200 ∧ (∀ t ∈ ls, t.size ≤ 64) ∧ ∀ y ∈ lp, okP ls.length y
def okPB (n : Nat) (y : Int × ByteArray) : Bool := decide (0 ≤ y.1) && decide (y.1 < n) && decide (y.2.size ≤ 64)
def rightB (ls : List ByteArray) (lp : List (Int × ByteArray)) : Bool := decide (1 ≤ ls.length) && decide (ls.length ≤ 64) && decide (lp.length ≤ 200) && ls.all (fun t => decide (t.size ≤ 64)) && lp.all (okPB ls.length)
theorem right_iff (ls : List ByteArray) (lp : List (Int × ByteArray)) : rightB ls lp = true ↔ Right ls lp := by
  simp only [rightB, Right, okPB, okP, Bool.and_eq_true, decide_eq_true_eq, List.all_eq_true, and_assoc]
theorem right_yes {ls : List ByteArray} {lp : List (Int × ByteArray)} (h : Right ls lp) : rightB ls lp = true := (right_iff ls lp).2 h
theorem right_no {ls : List ByteArray} {lp : List (Int × ByteArray)} (h : ¬ Right ls lp) : rightB ls lp = false := by
  cases e : rightB ls lp with
  | false => rfl
  | true => exact absurd ((right_iff ls lp).1 e) h

end Go.Proofs.Ytfpgobkedfhakaa.Disk
