/- A seal is right; with one byte turned it is not. -/
import Derived.Test.YtednbehelcfopaaUnsealDefs
import Derived.Test.YtednbehelcfopaaCrcTheory
namespace Go.Proofs.Ytednbehelcfopaa.Unseal
open Go.RowKit Go.Proofs.Ytednbehelcfopaa.Four Go.Proofs.Ytednbehelcfopaa.Crc Go.Proofs.Ytednbehelcfopaa.Seal

theorem ba_ext {a b : ByteArray} (h : a.data.toList = b.data.toList) : a = b := by
  apply ByteArray.ext; exact Array.ext' h

theorem seal_size (t : ByteArray) : (sealB t).size = t.size + 4 := size_sealB t

theorem seal_data (t : ByteArray) : (sealB t).data.toList = t.data.toList ++ (fourB (crcOf 0 t)).data.toList := data_app _ _

theorem inner_seal (t : ByteArray) : (sealB t).extract 0 ((sealB t).size - 4) = t := by
  apply ba_ext
  rw [Lib.extract_data, seal_size, seal_data]
  simp

theorem tail_seal (t : ByteArray) : (sealB t).extract ((sealB t).size - 4) (sealB t).size = fourB (crcOf 0 t) := by
  apply ba_ext
  have hl : (fourB (crcOf 0 t)).data.toList.length = 4 := size_fourB _
  rw [Lib.extract_data, seal_size, seal_data, Nat.add_sub_cancel]
  rw [show t.size = t.data.toList.length from rfl, List.drop_left, List.take_of_length_le (by omega)]

theorem seal_ok (t : ByteArray) : okSeal (sealB t) = true := by
  unfold okSeal
  rw [inner_seal, tail_seal]
  simp

theorem unsealV_ok (t : ByteArray) : unsealV (sealB t) = .agg #[.string t, .int .i64 0, .int .i64 0] := by
  unfold unsealV
  rw [if_pos (seal_ok t), inner_seal]

/-- A text with one byte turned. -/
def turn (s : ByteArray) (j : Nat) (b : UInt8) : ByteArray := ⟨(s.data.toList.set j b).toArray⟩

theorem size_turn (s : ByteArray) (j : Nat) (b : UInt8) : (turn s j b).size = s.size := by
  show (s.data.toList.set j b).toArray.size = _
  simp

theorem data_turn (s : ByteArray) (j : Nat) (b : UInt8) : (turn s j b).data.toList = s.data.toList.set j b := rfl

theorem four_inj {m n : Nat} (hm : m < 4294967296) (hn : n < 4294967296) (h : fourB m = fourB n) : m = n := by
  have hl := congrArg (fun s : ByteArray => s.data.toList) h
  simp only [fourB, List.cons.injEq] at hl
  obtain ⟨h0, h1, h2, h3, _⟩ := hl
  have e0 := congrArg UInt8.toNat h0
  have e1 := congrArg UInt8.toNat h1
  have e2 := congrArg UInt8.toNat h2
  have e3 := congrArg UInt8.toNat h3
  simp at e0 e1 e2 e3
  omega

theorem seal_turned (t : ByteArray) (j : Nat) (b : UInt8) (hj : j < t.size + 4) (hne : b ≠ (sealB t)[j]?.getD 0) : okSeal (turn (sealB t) j b) = false := by
  have hz : (turn (sealB t) j b).size = t.size + 4 := by rw [size_turn, seal_size]
  have hl4 : (fourB (crcOf 0 t)).data.toList.length = 4 := size_fourB _
  have hlt : t.data.toList.length = t.size := rfl
  unfold okSeal
  rw [hz, Nat.add_sub_cancel, list_eq, list_eq, Lib.extract_data, data_turn, seal_data, beq_eq_false_iff_ne]
  have hbyte : (sealB t)[j]?.getD 0 = (t.data.toList ++ (fourB (crcOf 0 t)).data.toList)[j]?.getD 0 := by rw [at_list, seal_data]
  rw [hbyte] at hne
  by_cases hjt : j < t.size
  · -- a byte of the text
    have e1 : (t.data.toList ++ (fourB (crcOf 0 t)).data.toList).set j b = t.data.toList.set j b ++ (fourB (crcOf 0 t)).data.toList := List.set_append_left _ _ (by omega)
    have e2 : (turn (sealB t) j b).extract 0 t.size = turn t j b := by
      apply ba_ext
      rw [Lib.extract_data, data_turn, data_turn, seal_data, e1]
      simp
    rw [e2, e1, show t.size = (t.data.toList.set j b).length by simp, List.drop_left, List.take_of_length_le (by omega)]
    intro h
    have hd : crcOf 0 (turn t j b) = crcOf 0 t := four_inj (crcOf_lt (by omega) _) (crcOf_lt (by omega) _) (ba_ext h)
    refine crcOf_diff (size_turn t j b) hjt ?_ ?_ hd
    · rw [at_list, at_list, data_turn]
      rw [List.getElem?_append_left (by omega)] at hne
      simpa [hlt, hjt] using hne
    · intro i hi
      rw [at_list, at_list, data_turn, List.getElem?_set_ne (fun e => hi e.symm)]
  · -- a byte of the sum
    have e1 : (t.data.toList ++ (fourB (crcOf 0 t)).data.toList).set j b = t.data.toList ++ (fourB (crcOf 0 t)).data.toList.set (j - t.size) b := by
      rw [List.set_append_right _ _ (by omega), hlt]
    have e2 : (turn (sealB t) j b).extract 0 t.size = t := by
      apply ba_ext
      rw [Lib.extract_data, data_turn, seal_data, e1]
      simp
    rw [e2, e1, show t.size = t.data.toList.length from rfl, List.drop_left, List.take_of_length_le (by simp [hl4])]
    intro h
    rw [List.getElem?_append_right (by omega), hlt] at hne
    have hx := congrArg (fun l : List UInt8 => l[j - t.size]?.getD 0) h
    rw [show t.data.toList.length = t.size from rfl] at hx
    have hin : j - t.size < (fourB (crcOf 0 t)).data.toList.length := by omega
    rw [List.getElem?_set_self hin] at hx
    exact hne (by simpa using hx.symm)
end Go.Proofs.Ytednbehelcfopaa.Unseal
