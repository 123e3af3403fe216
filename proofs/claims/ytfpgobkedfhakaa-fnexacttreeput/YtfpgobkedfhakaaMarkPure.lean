/- The texts that mark a place, as a function of their number. -/
import Derived.WalkKit
namespace Go.Proofs.Ytfpgobkedfhakaa.Mark

/-- The digits of a number ahead of what stands. -/
def digs (k : Nat) (acc : List UInt8) : List UInt8 := if h : k = 0 then acc else digs (k / 10) (UInt8.ofNat (48 + k % 10) :: acc)
termination_by k
decreasing_by omega

theorem digs_zero (acc : List UInt8) : digs 0 acc = acc := by rw [digs]; simp
theorem digs_pos {k : Nat} (h : 0 < k) (acc : List UInt8) : digs k acc = digs (k / 10) (UInt8.ofNat (48 + k % 10) :: acc) := by rw [digs]; simp; intro h2; omega

def markB (k : Nat) : ByteArray := if k = 0 then ⟨#[109, 48]⟩ else ⟨(109 :: digs k []).toArray⟩
def marks (k n : Nat) : List ByteArray := (List.range n).map fun i => markB (k + i)
theorem length_marks (k n : Nat) : (marks k n).length = n := by simp [marks]
end Go.Proofs.Ytfpgobkedfhakaa.Mark
