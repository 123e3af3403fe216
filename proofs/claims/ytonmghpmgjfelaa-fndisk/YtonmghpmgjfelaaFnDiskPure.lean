/- What the promise on disks leans on: plain lists. -/
import Derived.Test.YtonmghpmgjfelaaDiskPure
import Derived.Laws.StructEq
namespace Go.Proofs.Ytonmghpmgjfelaa.DiskP

theorem beqB (t : ByteArray) : (t == t) = true := by rw [beq_toListBytes]; simp
theorem flush_none (ls : List ByteArray) (kp : List Int) : flushD ls (keptD [] kp) = ls := rfl
theorem read_flushed (ls : List ByteArray) (lp : List (Int × ByteArray)) (h0 : ∀ y ∈ lp, 0 ≤ y.1) (k : Nat) (hk : k < ls.length) : readD (flushD ls lp) [] k = readD ls lp k := by
  rw [readD_nil _ k (by rw [length_flushD]; exact hk), flushD_at ls lp h0 k hk]
/-- Is the text at place k the sector's, or one of the first j pending ones' there? -/
def someTo (s t : ByteArray) (k : Nat) (lp : List (Int × ByteArray)) (j : Nat) : Bool := (t == s) || (lp.take j).any (fun y => y.1 == (k : Int) && y.2 == t)
theorem someTo_start (s t : ByteArray) (k : Nat) (lp : List (Int × ByteArray)) : someTo s t k lp 0 = (t == s) := by simp [someTo]
theorem someTo_step (s t : ByteArray) (k : Nat) (lp : List (Int × ByteArray)) (j : Nat) (h : j < lp.length) : someTo s t k lp (j + 1) = (someTo s t k lp j || (lp[j].1 == (k : Int) && lp[j].2 == t)) := by
  unfold someTo
  rw [List.take_succ_eq_append_getElem h, List.any_append]
  simp [Bool.or_assoc]
theorem someTo_end (ls : List ByteArray) (lp : List (Int × ByteArray)) (kp : List Int) (k : Nat) (hk : k < ls.length) : someTo ls[k] (readD ls (keptD lp kp) k) k lp lp.length = true := by
  unfold someTo
  rw [List.take_length]
  cases e : lastOf (keptD lp kp) (k : Int) with
  | none => rw [readD_none e hk, beqB]; rfl
  | some y =>
    obtain ⟨h1, h2⟩ := lastOf_mem e
    rw [readD_some e]
    have : lp.any (fun z => z.1 == (k : Int) && z.2 == y.2) = true := List.any_eq_true.2 ⟨y, keptTo_mem lp kp lp.length y h1, by simp [h2, beqB]⟩
    rw [this]
    simp
end Go.Proofs.Ytonmghpmgjfelaa.DiskP
