/- What the model's Spread answers, whole. -/
import Derived.Test.YtjgkekgieodhnaaSpecSpread
namespace Go.Proofs.Ytjgkekgieodhnaa.Gf
open Go.RowKit Go.Proofs.Ytjgkekgieodhnaa.Mem Go.Proofs.Ytjgkekgieodhnaa.Harn

theorem mulW {a b : Nat} (h : a * b ≤ 1000000) : IntKind.i64.wrap ((a : Int) * (b : Int)) = ((a * b : Nat) : Int) := by
  rw [← Int.natCast_mul]; exact IntWalk.i64_in _ ⟨by omega, by omega⟩
theorem plen_int {need size : Nat} (h : 0 < need) : ((size : Int) + need - 1) / need = ((plen need size : Nat) : Int) := by
  unfold plen
  have e : ((size : Int) + need - 1) = ((size + need - 1 : Nat) : Int) := by omega
  rw [e]; rfl

theorem slice_text (tx : ByteArray) (a b : Nat) (ha : a ≤ b) (hb : b ≤ tx.size) (i j : Int) (hi : i = a) (hj : j = b) (W : World) : (Instr.slice 9 (.string tx) (some (.int .i64 i)) (some (.int .i64 j)) none).run Try.prog W = .ok (.string (tx.extract a b)) W := by
  subst hi hj
  simp [Instr.slice, Instr.sliceBounds, run_underlying Join.underS, go_sem, ha, hb]

theorem toB_app (a b : List Nat) : toB a ++ toB b = toB (a ++ b) := by
  apply ByteArray.ext
  simp [toB]
theorem toB_extract (l : List Nat) (a b : Nat) : (toB l).extract a b = toB ((l.drop a).take (b - a)) := by
  apply ByteArray.ext
  apply Array.ext'
  simp [toB, List.extract_eq_take_drop]
theorem pad_text (t : ByteArray) (need : Nat) : t ++ toB (List.replicate (need * plen need t.size - t.size) 0) = toB (pad (nb t) need) := by
  conv => lhs; lhs; rw [← toB_nb t]
  rw [toB_app]
  unfold pad
  rw [nb_len]
theorem zeros_cells (n : Nat) : List.replicate n (Value.int .u8 0) = Lib.byteCells ((List.replicate n 0).map UInt8.ofNat) := by
  apply List.ext_getElem
  · simp [Lib.byteCells]
  · intro j h1 h2; simp [Lib.byteCells]

end Go.Proofs.Ytjgkekgieodhnaa.Gf
