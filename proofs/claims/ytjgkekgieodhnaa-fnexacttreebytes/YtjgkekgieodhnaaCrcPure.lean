/- The CRC of chapter 2 as a function of numbers, and its bounds. -/
import Derived.WalkKit
import Derived.Laws.BitsAllLaws
namespace Go.Proofs.Ytjgkekgieodhnaa.Crc
open Go.RowKit

def bitS (x : Nat) : Nat := if x % 2 = 1 then (x / 2) ^^^ 3988292384 else x / 2
def itS : Nat → Nat → Nat
  | 0, x => x
  | k + 1, x => bitS (itS k x)
def byteS (x c : Nat) : Nat := itS 8 (x ^^^ c)
def crcTo (s : ByteArray) (x : Nat) : Nat → Nat
  | 0 => x
  | k + 1 => byteS (crcTo s x k) (s[k]?.getD 0).toNat
def crcOf (x : Nat) (s : ByteArray) : Nat := crcTo s (x ^^^ 4294967295) s.size ^^^ 4294967295

theorem xor_lt {a b : Nat} (ha : a < 4294967296) (hb : b < 4294967296) : a ^^^ b < 4294967296 :=
  Nat.xor_lt_two_pow (n := 32) ha hb

theorem bitS_lt {x : Nat} (h : x < 4294967296) : bitS x < 4294967296 := by
  unfold bitS
  split
  · exact xor_lt (by omega) (by omega)
  · omega

theorem itS_lt {x : Nat} (h : x < 4294967296) : ∀ k, itS k x < 4294967296
  | 0 => h
  | k + 1 => bitS_lt (itS_lt h k)

theorem byteS_lt {x c : Nat} (h : x < 4294967296) (hc : c < 4294967296) : byteS x c < 4294967296 := itS_lt (xor_lt h hc) 8

theorem byte_lt (c : UInt8) : c.toNat < 256 := c.toNat_lt

theorem crcTo_lt (s : ByteArray) {x : Nat} (h : x < 4294967296) : ∀ k, crcTo s x k < 4294967296
  | 0 => h
  | k + 1 => byteS_lt (crcTo_lt s h k) (by have := byte_lt (s[k]?.getD 0); omega)

theorem crcOf_lt {x : Nat} (h : x < 4294967296) (s : ByteArray) : crcOf x s < 4294967296 :=
  xor_lt (crcTo_lt s (xor_lt h (by omega)) _) (by omega)

theorem xor32 {a b : Nat} (ha : a < 4294967296) (hb : b < 4294967296) : bits .xor .u32 (a : Int) (b : Int) = ((a ^^^ b : Nat) : Int) := u32_xor_nat a b ha hb

theorem xorM {a : Nat} (ha : a < 4294967296) : bits .xor .u32 (a : Int) 4294967295 = ((a ^^^ 4294967295 : Nat) : Int) :=
  u32_xor_nat a 4294967295 ha (by decide)

theorem xorM' {a : Nat} (ha : a < 4294967296) : bits .xor .u32 4294967295 (a : Int) = ((a ^^^ 4294967295 : Nat) : Int) := by
  rw [Nat.xor_comm]; exact u32_xor_nat 4294967295 a (by decide) ha

theorem and1 {x : Nat} (h : x < 4294967296) : bits .and .u32 (x : Int) 1 = ((x % 2 : Nat) : Int) := by
  have := u32_and_nat x 1 h (by omega)
  rw [Nat.and_one_is_mod] at this
  exact this

theorem poly {x : Nat} (h : x < 4294967296) : bits .xor .u32 ((x : Int) / 2) 3988292384 = ((x / 2 ^^^ 3988292384 : Nat) : Int) := by
  have := u32_xor_nat (x / 2) 3988292384 (by omega) (by omega)
  rw [← this]
  simp

theorem bit_yes {x : Nat} (h : x < 4294967296) (e : x % 2 = 1) : bits .xor .u32 ((x : Int) / 2) 3988292384 = (bitS x : Int) := by
  rw [poly h, bitS, if_pos e]

theorem bit_no {x : Nat} (e : ¬ x % 2 = 1) : ((x : Int) / 2) = (bitS x : Int) := by
  rw [bitS, if_neg e]; simp

theorem test_yes {x : Nat} (h : x < 4294967296) (e : x % 2 = 1) : (bits .and .u32 (x : Int) 1 == 1) = true := by
  rw [and1 h, e]; rfl

theorem test_no {x : Nat} (h : x < 4294967296) (e : ¬ x % 2 = 1) : (bits .and .u32 (x : Int) 1 == 1) = false := by
  rw [and1 h, beq_eq_false_iff_ne]; omega
end Go.Proofs.Ytjgkekgieodhnaa.Crc
