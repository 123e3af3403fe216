/- A CRC goes on from text to text, and a turned byte turns it. -/
import Derived.Test.YtednbehelcfopaaCrcPure
namespace Go.Proofs.Ytednbehelcfopaa.Crc
open Go.RowKit

theorem xor_cancel (a m : Nat) : (a ^^^ m) ^^^ m = a := by rw [Nat.xor_assoc, Nat.xor_self, Nat.xor_zero]

theorem xor_inj {a b m : Nat} (h : a ^^^ m = b ^^^ m) : a = b := by
  have := congrArg (· ^^^ m) h
  simpa [xor_cancel] using this

theorem xor_inj_left {a b m : Nat} (h : m ^^^ a = m ^^^ b) : a = b := by
  rw [Nat.xor_comm m a, Nat.xor_comm m b] at h; exact xor_inj h

theorem top_set {x : Nat} (h : x < 2147483648) : 2147483648 ≤ x ^^^ 3988292384 := by
  have hb : (x ^^^ 3988292384).testBit 31 = true := by
    rw [Nat.testBit_xor, Nat.testBit_lt_two_pow (show x < 2 ^ 31 by simpa using h)]
    decide
  have := Nat.ge_two_pow_of_testBit hb
  simpa using this

theorem bitS_inj {x y : Nat} (hx : x < 4294967296) (hy : y < 4294967296) (h : bitS x = bitS y) : x = y := by
  unfold bitS at h
  have hx2 : x / 2 < 2147483648 := by omega
  have hy2 : y / 2 < 2147483648 := by omega
  by_cases ox : x % 2 = 1
  · by_cases oy : y % 2 = 1
    · rw [if_pos ox, if_pos oy] at h
      have := xor_inj h
      omega
    · rw [if_pos ox, if_neg oy] at h
      have := top_set hx2
      omega
  · by_cases oy : y % 2 = 1
    · rw [if_neg ox, if_pos oy] at h
      have := top_set hy2
      omega
    · rw [if_neg ox, if_neg oy] at h
      omega

theorem itS_inj {x y : Nat} (hx : x < 4294967296) (hy : y < 4294967296) : ∀ k, itS k x = itS k y → x = y
  | 0, h => h
  | k + 1, h => itS_inj hx hy k (bitS_inj (itS_lt hx k) (itS_lt hy k) h)

/-- The same byte onto two registers. -/
theorem byteS_inj {x y c : Nat} (hx : x < 4294967296) (hy : y < 4294967296) (hc : c < 4294967296) (h : byteS x c = byteS y c) : x = y :=
  xor_inj (itS_inj (xor_lt hx hc) (xor_lt hy hc) 8 h)

/-- Two bytes onto one register. -/
theorem byteS_inj' {x c d : Nat} (hx : x < 4294967296) (hc : c < 4294967296) (hd : d < 4294967296) (h : byteS x c = byteS x d) : c = d :=
  xor_inj_left (itS_inj (xor_lt hx hc) (xor_lt hx hd) 8 h)

theorem crcTo_congr {s t : ByteArray} {x : Nat} : ∀ k, (∀ i, i < k → s[i]?.getD 0 = t[i]?.getD 0) → crcTo s x k = crcTo t x k
  | 0, _ => rfl
  | k + 1, h => by
    show byteS _ _ = byteS _ _
    rw [crcTo_congr k (fun i hi => h i (by omega)), h k (by omega)]

theorem byte_lt32 (c : UInt8) : c.toNat < 4294967296 := by have := byte_lt c; omega

theorem crcTo_diff {s t : ByteArray} {x j : Nat} (hx : x < 4294967296) (hj : s[j]?.getD 0 ≠ t[j]?.getD 0) (hs : ∀ i, i ≠ j → s[i]?.getD 0 = t[i]?.getD 0) : ∀ k, j < k → crcTo s x k ≠ crcTo t x k
  | 0, h => by omega
  | k + 1, h => by
    intro he
    have he' : byteS (crcTo s x k) (s[k]?.getD 0).toNat = byteS (crcTo t x k) (t[k]?.getD 0).toNat := he
    by_cases hk : j = k
    · subst hk
      rw [crcTo_congr j (fun i hi => hs i (by omega))] at he'
      have := byteS_inj' (crcTo_lt t hx j) (byte_lt32 _) (byte_lt32 _) he'
      exact hj (UInt8.toNat.inj this)
    · rw [hs k (fun e => hk e.symm)] at he'
      exact crcTo_diff hx hj hs k (by omega) (byteS_inj (crcTo_lt s hx k) (crcTo_lt t hx k) (byte_lt32 _) he')

/-- A turned byte turns the CRC. -/
theorem crcOf_diff {s t : ByteArray} {j : Nat} (hz : s.size = t.size) (hlt : j < t.size) (hj : s[j]?.getD 0 ≠ t[j]?.getD 0) (hs : ∀ i, i ≠ j → s[i]?.getD 0 = t[i]?.getD 0) : crcOf 0 s ≠ crcOf 0 t := by
  intro h
  unfold crcOf at h
  rw [hz] at h
  exact crcTo_diff (xor_lt (by omega) (by omega)) hj hs t.size hlt (xor_inj h)

/-- A byte of a text, as of its list. -/
theorem at_list (s : ByteArray) (i : Nat) : s[i]?.getD 0 = s.data.toList[i]?.getD 0 := by
  by_cases h : i < s.size
  · have h' : i < s.data.toList.length := h
    rw [getElem?_pos s i h, List.getElem?_eq_getElem h']; rfl
  · have h' : s.data.toList.length ≤ i := Nat.le_of_not_lt h
    rw [getElem?_neg s i h, List.getElem?_eq_none h']

theorem data_app (s t : ByteArray) : (s ++ t).data.toList = s.data.toList ++ t.data.toList := by simp
theorem data_len (s : ByteArray) : s.data.toList.length = s.size := rfl

theorem at_append_left (s t : ByteArray) (i : Nat) (h : i < s.size) : (s ++ t)[i]?.getD 0 = s[i]?.getD 0 := by
  rw [at_list, at_list, data_app, List.getElem?_append_left (by rw [data_len]; exact h)]

theorem at_append_right (s t : ByteArray) (i : Nat) : (s ++ t)[s.size + i]?.getD 0 = t[i]?.getD 0 := by
  rw [at_list, at_list, data_app, List.getElem?_append_right (by rw [data_len]; omega), data_len, Nat.add_sub_cancel_left]

theorem crcTo_app (s t : ByteArray) (x : Nat) : ∀ k, k ≤ t.size → crcTo (s ++ t) x (s.size + k) = crcTo t (crcTo s x s.size) k
  | 0, _ => crcTo_congr s.size (fun i hi => at_append_left s t i hi)
  | k + 1, h => by
    show byteS (crcTo (s ++ t) x (s.size + k)) ((s ++ t)[s.size + k]?.getD 0).toNat = byteS _ _
    rw [crcTo_app s t x k (by omega), at_append_right s t k]

/-- A CRC goes on from text to text. -/
theorem crcOf_app (s t : ByteArray) : crcOf (crcOf 0 s) t = crcOf 0 (s ++ t) := by
  unfold crcOf
  rw [ByteArray.size_append, crcTo_app s t _ t.size (Nat.le_refl _), xor_cancel]
end Go.Proofs.Ytednbehelcfopaa.Crc
