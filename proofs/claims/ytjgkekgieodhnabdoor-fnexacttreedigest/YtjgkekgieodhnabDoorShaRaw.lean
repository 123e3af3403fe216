/- The two sums of a round, as the walks leave them. -/
import Derived.Test.YtjgkekgieodhnabDoorShaWords
namespace Go.Proofs.YtjgkekgieodhnabDoor.Sha
open Go.RowKit

theorem u32max : (if IntKind.u32.signed = true then (-1 : Int) else IntKind.u32.max) = ((4294967295 : Nat) : Int) := by simp [IntKind.max, IntKind.bits, IntKind.signed]

theorem t1_raw {ta tb tc td te tf tg th xk x5 : Nat} (h5 : te < 4294967296) (h6 : tf < 4294967296) (h7 : tg < 4294967296) :
    (((th : Int) + ((sg1 te : Nat) : Int) + bits .xor .u32 (bits .and .u32 (te : Int) (tf : Int)) (bits .and .u32 (bits .xor .u32 (if IntKind.u32.signed = true then -1 else IntKind.u32.max) (te : Int)) (tg : Int)) + (xk : Int)) % 4294967296 + (x5 : Int)) % 4294967296
      = ((t1 xk x5 ⟨ta, tb, tc, td, te, tf, tg, th⟩ : Nat) : Int) := by
  rw [u32max, xor32 (by omega) h5, and32 h5 h6, and32 (xor_lt (by omega) h5) h7, xor32 (and_lt h6) (and_lt h7)]
  unfold t1 ch
  rw [Nat.xor_comm 4294967295 te]
  simp only
  omega
theorem t2_raw {ta tb tc td te tf tg th : Nat} (h1 : ta < 4294967296) (h2 : tb < 4294967296) (h3 : tc < 4294967296) :
    (((sg0 ta : Nat) : Int) + bits .xor .u32 (bits .xor .u32 (bits .and .u32 (ta : Int) (tb : Int)) (bits .and .u32 (ta : Int) (tc : Int))) (bits .and .u32 (tb : Int) (tc : Int))) % 4294967296
      = ((t2 ⟨ta, tb, tc, td, te, tf, tg, th⟩ : Nat) : Int) := by
  rw [and32 h1 h2, and32 h1 h3, and32 h2 h3, xor32 (and_lt h2) (and_lt h3), xor32 (xor_lt (and_lt h2) (and_lt h3)) (and_lt h3)]
  unfold t2 maj
  simp only
  omega
theorem st_cell (t : St) (j : Nat) (hj : j < 8) : (u32s (listOf t))[j]? = some (.int .u32 ((listOf t).getD j 0 : Nat)) := by
  match j, hj with
  | 0, _ => rfl
  | 1, _ => rfl
  | 2, _ => rfl
  | 3, _ => rfl
  | 4, _ => rfl
  | 5, _ => rfl
  | 6, _ => rfl
  | 7, _ => rfl
theorem add_at (s t : St) (j : Nat) (hj : j < 8) : (listOf (addSt s t)).getD j 0 = ((listOf s).getD j 0 + (listOf t).getD j 0) % 4294967296 := by
  match j, hj with
  | 0, _ => rfl
  | 1, _ => rfl
  | 2, _ => rfl
  | 3, _ => rfl
  | 4, _ => rfl
  | 5, _ => rfl
  | 6, _ => rfl
  | 7, _ => rfl
end Go.Proofs.YtjgkekgieodhnabDoor.Sha
