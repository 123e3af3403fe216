/- The bytes of a number, as a function of numbers. -/
import Derived.WalkKit
import Derived.Laws.BitsAllLaws
namespace Go.Proofs.Ytjgkekgieodhnaa.PutNum
open Go.RowKit

def foldN (n : Int) : Nat := if n < 0 then (-2 * n - 1).toNat else (2 * n).toNat
def putF : Nat → Nat → List UInt8
  | 0, u => [UInt8.ofNat u]
  | f + 1, u => if 128 ≤ u then UInt8.ofNat (u % 128 + 128) :: putF f (u / 128) else [UInt8.ofNat u]
/-- The bytes of a number. -/
def numL (n : Int) : List UInt8 := putF 9 (foldN n)

theorem foldN_lt (n : Int) (h1 : -9223372036854775808 ≤ n) (h2 : n ≤ 9223372036854775807) : foldN n < 18446744073709551616 := by
  unfold foldN; split <;> omega

theorem fold_neg {n : Int} (h : n < 0) : (foldN n : Int) = 2 * -(n + 1) + 1 := by unfold foldN; rw [if_pos h]; omega
theorem fold_pos {n : Int} (h : ¬ n < 0) : (foldN n : Int) = 2 * n := by unfold foldN; rw [if_neg h]; omega

theorem max64 : IntKind.u64.max = 18446744073709551615 := by simp [IntKind.max, IntKind.bits, IntKind.signed]

theorem xor_ones (a : Nat) (h : a < 18446744073709551616) : 18446744073709551615 ^^^ a = 18446744073709551615 - a := by
  have h1 : (BitVec.allOnes 64 ^^^ BitVec.ofNat 64 a).toNat = 18446744073709551615 ^^^ a := by
    rw [BitVec.toNat_xor, BitVec.toNat_allOnes, BitVec.toNat_ofNat, Nat.mod_eq_of_lt (by simpa using h)]
  rw [← h1, BitVec.allOnes_xor, BitVec.toNat_not, BitVec.toNat_ofNat, Nat.mod_eq_of_lt (by simpa using h)]

theorem fold_bits {n : Int} (h1 : -9223372036854775808 ≤ n) (h : n < 0) : bits .xor .u64 IntKind.u64.max (IntKind.u64.wrap (IntKind.u64.wrap n * 2)) = (foldN n : Int) := by
  have e1 : IntKind.u64.wrap n = n + 18446744073709551616 := by rw [IntKind.wrap_u64]; omega
  have e2 : IntKind.u64.wrap ((n + 18446744073709551616) * 2) = ((2 * n + 18446744073709551616).toNat : Int) := by rw [IntKind.wrap_u64]; omega
  rw [e1, e2, max64, fold_neg h]
  have := u64_xor_nat 18446744073709551615 (2 * n + 18446744073709551616).toNat (by decide) (by omega)
  rw [xor_ones _ (by omega)] at this
  refine Eq.trans this ?_
  omega

theorem putF_small {u : Nat} (h : u < 128) : ∀ f, putF f u = [UInt8.ofNat u]
  | 0 => rfl
  | f + 1 => by unfold putF; rw [if_neg (by omega)]

theorem putF_great {f u : Nat} (h : 128 ≤ u) : putF (f + 1) u = UInt8.ofNat (u % 128 + 128) :: putF f (u / 128) := by
  rw [putF, if_pos h]

theorem toNat_cont (u : Nat) : ((UInt8.ofNat (u % 128 + 128)).toNat : Int) = (u : Int) % 128 + 128 := by
  simp; omega

theorem toNat_last {u : Nat} (h : u < 128) : ((UInt8.ofNat u).toNat : Int) = (u : Int) := by
  simp; omega

/-- What holds at a round's head: f rounds at most are left, 'pre' has been laid down. -/
def Inv (u0 f u : Nat) (pre : List UInt8) : Prop := pre.length + f = 9 ∧ u < 128 ^ (f + 1) ∧ pre ++ putF f u = putF 9 u0

theorem inv_start {u : Nat} (h : u < 18446744073709551616) : Inv u 9 u [] := ⟨rfl, Nat.lt_of_lt_of_le h (by decide), rfl⟩

theorem inv_step {u0 f u : Nat} {pre : List UInt8} (h : Inv u0 f u pre) (hu : 128 ≤ u) : ∃ g, f = g + 1 ∧ Inv u0 g (u / 128) (pre ++ [UInt8.ofNat (u % 128 + 128)]) := by
  obtain ⟨h1, h2, h3⟩ := h
  cases f with
  | zero => omega
  | succ g =>
    refine ⟨g, rfl, by simp; omega, ?_, ?_⟩
    · rw [Nat.pow_succ] at h2
      exact Nat.div_lt_of_lt_mul (by rw [Nat.mul_comm]; exact h2)
    · rw [putF_great hu] at h3
      simpa using h3

theorem inv_end {u0 f u : Nat} {pre : List UInt8} (h : Inv u0 f u pre) (hu : u < 128) : pre ++ [UInt8.ofNat u] = putF 9 u0 := by
  have := h.2.2
  rwa [putF_small hu] at this

theorem inv_le {u0 f u : Nat} {pre : List UInt8} (h : Inv u0 f u pre) : pre.length ≤ 9 := by have := h.1; omega
theorem length_putF : ∀ f u, 1 ≤ (putF f u).length ∧ (putF f u).length ≤ f + 1
  | 0, u => by simp [putF]
  | f + 1, u => by
    have := length_putF f (u / 128)
    unfold putF; split <;> simp <;> omega
theorem length_numL (n : Int) : 1 ≤ (numL n).length ∧ (numL n).length ≤ 10 := length_putF 9 _
end Go.Proofs.Ytjgkekgieodhnaa.PutNum
