/- What the multiplying functions of the program and of the model answer, by contracts. -/
import Derived.Test.YtfpgobkedfhakaaRows
import Derived.Test.YtfpgobkedfhakaaGfPure
import Derived.WalkKit
import Derived.Below
import Derived.Laws.ShiftsVarLaws
import Derived.WalkSpells
import Derived.Deep.RegionWith
namespace Go.Proofs.Ytfpgobkedfhakaa.Gf
open Go.RowKit

theorem ret_int {k : IntKind} {a b : Int} (h : a = b) : Ending.returned (.int k a) = .returned (.int k b) := by rw [h]
theorem val_int {k : IntKind} {a b : Int} (h : a = b) : Value.int k a = .int k b := by rw [h]

theorem xor64 {a b : Nat} (ha : a < 65536) (hb : b < 65536) : bits .xor .i64 (a : Int) (b : Int) = ((a ^^^ b : Nat) : Int) := by
  have hx : a ^^^ b < 2 ^ 16 := Nat.xor_lt_two_pow (by omega) (by omega)
  show IntKind.i64.wrap ((BitVec.ofInt 64 (a : Int) ^^^ BitVec.ofInt 64 (b : Int)).toNat : Int) = _
  rw [BitVec.toNat_xor, ofInt_u64 a (by omega), ofInt_u64 b (by omega), IntKind.wrap_i64]
  omega
theorem and1 {a : Nat} (ha : a < 65536) : bits .and .i64 (a : Int) 1 = ((a % 2 : Nat) : Int) := by
  show IntKind.i64.wrap ((BitVec.ofInt 64 (a : Int) &&& BitVec.ofInt 64 1).toNat : Int) = _
  have h1 : (BitVec.ofInt 64 1).toNat = 1 := by decide
  rw [BitVec.toNat_and, ofInt_u64 a (by omega), h1, Nat.and_one_is_mod, IntKind.wrap_i64]
  omega

/-- GfMul, whatever it is given -/
def el (a : Int) : Bool := decide (0 ≤ a ∧ a ≤ 255)
def mulZ (a b : Int) : Int := if el a && el b then (mul a.toNat b.toNat : Nat) else 0

theorem proTo_lt {a : Nat} (ha : a < 256) (b : Nat) : ∀ k, k ≤ 8 → proTo k a b < 65536
  | 0, _ => by simp [proTo]
  | k + 1, h => by
    unfold proTo
    refine Nat.xor_lt_two_pow (n := 16) (proTo_lt ha b k (by omega)) ?_
    split
    · rw [Nat.shiftLeft_eq]
      have h2 : (2 : Nat) ^ k ≤ 2 ^ 7 := Nat.pow_le_pow_right (by omega) (by omega)
      calc a * 2 ^ k ≤ 255 * 2 ^ 7 := Nat.mul_le_mul (by omega) h2
        _ < 2 ^ 16 := by decide
    · decide

theorem shr_test (b k : Nat) (hb : b < 65536) (h : b.testBit k = true) : (bits .and .i64 ((b : Int) / 2 ^ k) 1 == 1) = true := by
  have h2 : ((b : Int) / 2 ^ k) = ((b / 2 ^ k : Nat) : Int) := by simp
  rw [h2, and1 (Nat.lt_of_le_of_lt (Nat.div_le_self _ _) hb)]
  rw [Nat.testBit_eq_decide_div_mod_eq] at h
  simp at h
  rw [h]; rfl
theorem shr_test' (b k : Nat) (hb : b < 65536) (h : ¬ b.testBit k = true) : (bits .and .i64 ((b : Int) / 2 ^ k) 1 == 1) = false := by
  have h2 : ((b : Int) / 2 ^ k) = ((b / 2 ^ k : Nat) : Int) := by simp
  rw [h2, and1 (Nat.lt_of_le_of_lt (Nat.div_le_self _ _) hb)]
  rw [Nat.testBit_eq_decide_div_mod_eq] at h
  simp at h
  rw [beq_eq_false_iff_ne]; omega

theorem wrap64_small {a : Int} (h : 0 ≤ a) (h2 : a < 65536) : wrap64 a = a := by unfold wrap64; omega
theorem cast_shl (a k : Nat) : ((a * 2 ^ k : Nat) : Int) = (a : Int) * 2 ^ k := by rw [Int.natCast_mul, Int.natCast_pow]; rfl
theorem shl_lt (a k : Nat) (ha : a < 256) (hk : k < 8) : (a : Int) * 2 ^ k < 65536 := by
  have h2 : (2 : Nat) ^ k ≤ 2 ^ 7 := Nat.pow_le_pow_right (by omega) (by omega)
  have h : a * 2 ^ k ≤ 255 * 2 ^ 7 := Nat.mul_le_mul (by omega) h2
  have h' : ((a * 2 ^ k : Nat) : Int) ≤ ((255 * 2 ^ 7 : Nat) : Int) := Int.ofNat_le.mpr h
  have h3 := cast_shl a k
  rw [← h3]; omega
theorem shl_ge (a k : Nat) : 0 ≤ (a : Int) * 2 ^ k := by
  have h3 := cast_shl a k
  rw [← h3]; omega
theorem pro_step {a b k : Nat} (ha : a < 256) (hx : proTo k a b < 65536) (hk : k < 8) (e : b.testBit k = true) : bits .xor .i64 ((proTo k a b : Nat) : Int) (wrap64 ((a : Int) * 2 ^ k)) = ((proTo (k + 1) a b : Nat) : Int) := by
  have h2 : (a : Int) * 2 ^ k = ((a <<< k : Nat) : Int) := by rw [Nat.shiftLeft_eq]; exact (cast_shl a k).symm
  have hs1 := shl_lt a k ha hk
  rw [h2] at hs1 ⊢
  rw [wrap64_small (Int.natCast_nonneg _) (by omega), xor64 hx (by omega), proTo, if_pos e]
theorem red_ge (k : Nat) : 0 ≤ (285 : Int) * 2 ^ k := shl_ge 285 k
theorem red_lt (k : Nat) (hk : k < 7) : (285 : Int) * 2 ^ k < 65536 := by
  have h2 : (2 : Nat) ^ k ≤ 2 ^ 6 := Nat.pow_le_pow_right (by omega) (by omega)
  have h : 285 * 2 ^ k ≤ 285 * 2 ^ 6 := Nat.mul_le_mul (by omega) h2
  have h' : ((285 * 2 ^ k : Nat) : Int) ≤ ((285 * 2 ^ 6 : Nat) : Int) := Int.ofNat_le.mpr h
  have h3 : ((285 * 2 ^ k : Nat) : Int) = (285 : Int) * 2 ^ k := cast_shl 285 k
  rw [← h3]; omega
theorem red_step {q k : Nat} (hq : q < 65536) (hk : k < 7) (e : q.testBit (8 + k) = true) : bits .xor .i64 (q : Int) (wrap64 ((285 : Int) * 2 ^ k)) = ((redAt k q : Nat) : Int) := by
  have h2 : (285 : Int) * (2 : Int) ^ k = ((285 <<< k : Nat) : Int) := by rw [Nat.shiftLeft_eq]; exact (cast_shl 285 k).symm
  have hs1 := red_lt k hk
  rw [h2] at hs1 ⊢
  rw [wrap64_small (Int.natCast_nonneg _) (by omega), xor64 hq (by omega), redAt, if_pos e]
theorem red_no {q k : Nat} (e : ¬ q.testBit (8 + k) = true) : redAt k q = q := by rw [redAt, if_neg e]; simp
theorem redAt_lt {q k : Nat} (hq : q < 65536) (hk : k < 7) : redAt k q < 65536 := by
  refine Nat.xor_lt_two_pow (n := 16) hq ?_
  split
  · rw [Nat.shiftLeft_eq]; have := red_lt k hk
    have h3 : ((285 * 2 ^ k : Nat) : Int) = (285 : Int) * 2 ^ k := cast_shl 285 k
    rw [← h3] at this; omega
  · decide

theorem xt_no {a : Nat} (h : a < 128) : xt a = 2 * a := by
  have : a.testBit 7 = false := Nat.testBit_lt_two_pow (Nat.lt_of_lt_of_le h (by decide))
  simp [xt, this]
theorem xt_yes {a : Nat} (h : a < 256) (h2 : ¬ a < 128) : xt a = (2 * a) ^^^ 285 := by
  have : ∀ a, a < 256 → ¬ a < 128 → a.testBit 7 = true := by decide +kernel
  simp [xt, this a h h2]
theorem mulTo_zero : ∀ k a, mulTo k a 0 = 0 := fun k a => lin_of0 (lin_mulTo_right k a)

/-- a round of the model's loop -/
def MulRel (z n x y : Nat) : Prop := ∃ k, y < 2 ^ k ∧ n < 256 ∧ x < 256 ∧ n ^^^ mulTo k x y = z
theorem mulRel_start {a b : Nat} (ha : a < 256) (hb : b < 256) : MulRel (mul a b) 0 a b := ⟨8, hb, by omega, ha, by simp [mul]⟩
theorem mulRel_end {z n x : Nat} (h : MulRel z n x 0) : n = z := by
  obtain ⟨k, _, _, _, h⟩ := h
  rw [mulTo_zero] at h; simpa using h
theorem mulRel_lt {z n x y : Nat} (h : MulRel z n x y) : n < 256 ∧ x < 256 := ⟨h.choose_spec.2.1, h.choose_spec.2.2.1⟩
theorem mulRel_yes {z n x y : Nat} (h : MulRel z n x y) (e : y % 2 = 1) : MulRel z (n ^^^ x) (xt x) (y / 2) := by
  obtain ⟨k, h1, h2, h3, h4⟩ := h
  obtain ⟨j, rfl⟩ : ∃ j, k = j + 1 := ⟨k - 1, by cases k <;> simp at *; omega⟩
  refine ⟨j, by rw [Nat.pow_succ] at h1; omega, xor8 h2 h3, xt_lt h3, ?_⟩
  rw [← h4, mulTo, if_pos e, Nat.xor_assoc]
theorem mulRel_no {z n x y : Nat} (h : MulRel z n x y) (hy : y ≠ 0) (e : ¬ y % 2 = 1) : MulRel z n (xt x) (y / 2) := by
  obtain ⟨k, h1, h2, h3, h4⟩ := h
  obtain ⟨j, rfl⟩ : ∃ j, k = j + 1 := ⟨k - 1, by cases k <;> simp at *; omega⟩
  refine ⟨j, by rw [Nat.pow_succ] at h1; omega, h2, xt_lt h3, ?_⟩
  rw [← h4, mulTo, if_neg e]; simp

theorem xor285 {x : Nat} (h : x < 256) (h2 : ¬ x < 128) : bits .xor .i64 (2 * (x : Int)) 285 = ((xt x : Nat) : Int) := by
  have := xor64 (a := 2 * x) (b := 285) (by omega) (by omega)
  rw [xt_yes h h2, ← this]; simp

end Go.Proofs.Ytfpgobkedfhakaa.Gf
