/- What the disk's functions tell, as plain data. -/
import Derived.Test.YtncooabjacpjbaaOwnDisk2
import Derived.Test.YtncooabjacpjbaaSpecDiskRight
import Derived.Test.YtncooabjacpjbaaDiskPure
namespace Go.Proofs.Ytncooabjacpjbaa.Disk
open Go.RowKit Go.Proofs.Ytncooabjacpjbaa.Mem Go.Proofs.Ytncooabjacpjbaa.Harn Go.Proofs.Ytncooabjacpjbaa.DiskP

/-- What is told: the disk's sectors and pending writes, the data, the code. -/
structure Out where
  ls : List ByteArray
  lp : List (Int × ByteArray)
  t : ByteArray
  c : Int
def ill (c : Int) : Out := ⟨[], [], ByteArray.empty, c⟩

/-- A call told o: in memory of its own; nothing old has turned. -/
def Told (w : World) (o : Out) (e : Ending) (w' : World) : Prop := ∃ us up, e = .returned (outV us up o.t o.c) ∧ Own w' w.heap.size w'.heap.size us up o.ls o.lp ∧ Below w.heap.size w w'
/-- A call told a disk. -/
def ToldD (w : World) (ls : List ByteArray) (lp : List (Int × ByteArray)) (e : Ending) (w' : World) : Prop := ∃ us up, e = .returned (.agg #[us, up]) ∧ Own w' w.heap.size w'.heap.size us up ls lp ∧ Below w.heap.size w w'

def newD (n : Int) : List ByteArray := if 1 ≤ n ∧ n ≤ 64 then List.replicate n.toNat ByteArray.empty else []
theorem newD_yes {n : Int} (h1 : 1 ≤ n) (h2 : n ≤ 64) : newD n = List.replicate n.toNat ByteArray.empty := by unfold newD; rw [if_pos ⟨h1, h2⟩]
theorem newD_no {n : Int} (h : n < 1 ∨ 64 < n) : newD n = [] := by unfold newD; rw [if_neg (by omega)]

def readO (ls : List ByteArray) (lp : List (Int × ByteArray)) (x : Int) : Out := if rightB ls lp = true then (if 0 ≤ x ∧ x < ls.length then ⟨ls, lp, readD ls lp x.toNat, 0⟩ else ill 8) else ill 1
theorem readO_form {ls : List ByteArray} {lp : List (Int × ByteArray)} {x : Int} (h : rightB ls lp = false) : readO ls lp x = ill 1 := by unfold readO; rw [h]; rfl
theorem readO_range {ls : List ByteArray} {lp : List (Int × ByteArray)} {x : Int} (h : rightB ls lp = true) (h2 : ¬ (0 ≤ x ∧ x < ls.length)) : readO ls lp x = ill 8 := by unfold readO; rw [if_pos h, if_neg h2]
theorem readO_ok {ls : List ByteArray} {lp : List (Int × ByteArray)} {k : Nat} (h : rightB ls lp = true) (h2 : k < ls.length) : readO ls lp (k : Int) = ⟨ls, lp, readD ls lp k, 0⟩ := by
  unfold readO; rw [if_pos h, if_pos (by omega)]; rfl

def writeO (ls : List ByteArray) (lp : List (Int × ByteArray)) (x : Int) (t : ByteArray) : Out :=
  if 8000 < t.size then ill 2 else if rightB ls lp = false ∨ 64 < t.size then ill 1 else if ¬ (0 ≤ x ∧ x < ls.length) then ill 8 else if lp.length = 200 then ill 9 else ⟨ls, lp ++ [(x, t)], ByteArray.empty, 0⟩
theorem writeO_size {ls : List ByteArray} {lp : List (Int × ByteArray)} {x : Int} {t : ByteArray} (h : 8000 < t.size) : writeO ls lp x t = ill 2 := by unfold writeO; rw [if_pos h]
theorem writeO_form {ls : List ByteArray} {lp : List (Int × ByteArray)} {x : Int} {t : ByteArray} (h : ¬ 8000 < t.size) (h2 : rightB ls lp = false ∨ 64 < t.size) : writeO ls lp x t = ill 1 := by unfold writeO; rw [if_neg h, if_pos h2]
theorem writeO_range {ls : List ByteArray} {lp : List (Int × ByteArray)} {x : Int} {t : ByteArray} (h : ¬ 64 < t.size) (h2 : rightB ls lp = true) (h3 : ¬ (0 ≤ x ∧ x < ls.length)) : writeO ls lp x t = ill 8 := by
  unfold writeO; rw [if_neg (by omega), if_neg (by simp [h2]; omega), if_pos h3]
theorem writeO_full {ls : List ByteArray} {lp : List (Int × ByteArray)} {x : Int} {t : ByteArray} (h : ¬ 64 < t.size) (h2 : rightB ls lp = true) (h3 : 0 ≤ x ∧ x < ls.length) (h4 : lp.length = 200) : writeO ls lp x t = ill 9 := by
  unfold writeO; rw [if_neg (by omega), if_neg (by simp [h2]; omega), if_neg (by simpa using h3), if_pos h4]
theorem writeO_ok {ls : List ByteArray} {lp : List (Int × ByteArray)} {x : Int} {t : ByteArray} (h : ¬ 64 < t.size) (h2 : rightB ls lp = true) (h3 : 0 ≤ x ∧ x < ls.length) (h4 : ¬ lp.length = 200) : writeO ls lp x t = ⟨ls, lp ++ [(x, t)], ByteArray.empty, 0⟩ := by
  unfold writeO; rw [if_neg (by omega), if_neg (by simp [h2]; omega), if_neg (by simpa using h3), if_neg h4]

def flushO (ls : List ByteArray) (lp : List (Int × ByteArray)) : Out := if rightB ls lp = true then ⟨flushD ls lp, [], ByteArray.empty, 0⟩ else ill 1
theorem flushO_form {ls : List ByteArray} {lp : List (Int × ByteArray)} (h : rightB ls lp = false) : flushO ls lp = ill 1 := by unfold flushO; rw [h]; rfl
theorem flushO_ok {ls : List ByteArray} {lp : List (Int × ByteArray)} (h : rightB ls lp = true) : flushO ls lp = ⟨flushD ls lp, [], ByteArray.empty, 0⟩ := by unfold flushO; rw [if_pos h]

/-- What a crash leaves: the sectors, the pending writes. -/
def crashO (ls : List ByteArray) (lp : List (Int × ByteArray)) (kp : List Int) : List ByteArray × List (Int × ByteArray) :=
  if 400 < kp.length then ([], []) else if rightB ls lp = true then (flushD ls (keptD lp kp), []) else (ls, lp)
theorem crashO_size {ls : List ByteArray} {lp : List (Int × ByteArray)} {kp : List Int} (h : 400 < kp.length) : crashO ls lp kp = ([], []) := by unfold crashO; rw [if_pos h]
theorem crashO_form {ls : List ByteArray} {lp : List (Int × ByteArray)} {kp : List Int} (h : ¬ 400 < kp.length) (h2 : rightB ls lp = false) : crashO ls lp kp = (ls, lp) := by unfold crashO; rw [if_neg h, h2]; rfl
theorem crashO_ok {ls : List ByteArray} {lp : List (Int × ByteArray)} {kp : List Int} (h : ¬ 400 < kp.length) (h2 : rightB ls lp = true) : crashO ls lp kp = (flushD ls (keptD lp kp), []) := by unfold crashO; rw [if_neg h, if_pos h2]
end Go.Proofs.Ytncooabjacpjbaa.Disk
