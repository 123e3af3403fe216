/- What the laws' markText answers. -/
import Derived.Test.YtkanhjafchiikaaRows
import Derived.Test.YtkanhjafchiikaaMarkPure
import Derived.Test.YtkanhjafchiikaaMemLaws
namespace Go.Proofs.Ytkanhjafchiikaa.Mark
open Go.RowKit Go.Proofs.Ytkanhjafchiikaa.Mem

theorem under : Try.prog.underlying 22 = some (.slice 5) := by kernel_rfl
theorem underS : Try.prog.underlying 9 = some .string := by kernel_rfl
theorem under8 : Try.prog.underlying 5 = some (.int .u8) := by kernel_rfl

theorem digit_text (W : World) (x : Nat) : (convert 22 9 (.slice (some ⟨W.heap.size, 0, none⟩) 1 1)).run Try.prog (W.alloc (.cells #[.int .u8 (48 + (x : Int) % 10)] 5)) = .ok (.string ⟨#[UInt8.ofNat (48 + x % 10)]⟩) (W.alloc (.cells #[.int .u8 (48 + (x : Int) % 10)] 5)) := by
  have h := text_of_row (P := Try.prog) 22 9 5 under under8 underS (W.alloc (.cells #[.int .u8 (48 + (x : Int) % 10)] 5)) W.heap.size 1 1 [UInt8.ofNat (48 + x % 10)] [] rfl (T := 5) (by
    show (W.heap.push _)[W.heap.size]? = _
    have e : (UInt8.ofNat (48 + x % 10)).toNat = 48 + x % 10 := by rw [UInt8.toNat_ofNat']; omega
    simp [Lib.byteCells]
    omega)
  exact h

theorem cons_text (c : UInt8) (acc : List UInt8) : (⟨#[c]⟩ : ByteArray) ++ (⟨acc.toArray⟩ : ByteArray) = ⟨(c :: acc).toArray⟩ := by
  apply ByteArray.ext
  simp

theorem digs_len : ∀ (n k : Nat) (acc : List UInt8), k < 10 ^ n → (digs k acc).length ≤ acc.length + n
  | 0, k, acc, h => by
    obtain rfl : k = 0 := by simpa using h
    rw [digs_zero]; omega
  | n + 1, k, acc, h => by
    by_cases hk : k = 0
    · subst hk; rw [digs_zero]; omega
    · rw [digs_pos (by omega)]
      have := digs_len n (k / 10) (UInt8.ofNat (48 + k % 10) :: acc) (by rw [Nat.pow_succ] at h; omega)
      rw [List.length_cons] at this
      omega
theorem acc_len : ∀ (n k : Nat) (acc : List UInt8), k ≤ n → acc.length ≤ (digs k acc).length
  | 0, k, acc, h => by
    obtain rfl : k = 0 := by omega
    rw [digs_zero]; omega
  | n + 1, k, acc, h => by
    by_cases hk : k = 0
    · subst hk; rw [digs_zero]; omega
    · rw [digs_pos (by omega)]
      have := acc_len n (k / 10) (UInt8.ofNat (48 + k % 10) :: acc) (by omega)
      rw [List.length_cons] at this
      omega

end Go.Proofs.Ytkanhjafchiikaa.Mark
