/- Laws that the proof rests on, put together: What the two Seal functions answer, by contracts. When a seal is right. A seal is right; with one byte turned it is not. -/
import Derived.Test.YtnfidmjplhmblaaGreatDoorRows
import Derived.Test.YtnfidmjplhmblaaGreatDoorCrc
import Derived.Test.YtnfidmjplhmblaaGreatDoorFour
import Derived.Lib.Strings
import Derived.Test.YtnfidmjplhmblaaGreatDoorTextsA
/- What the two Seal functions answer, by contracts. -/
namespace Go.Proofs.YtnfidmjplhmblaaGreatDoor.Seal
open Go.RowKit Go.Proofs.YtnfidmjplhmblaaGreatDoor.Mem Go.Proofs.YtnfidmjplhmblaaGreatDoor.Four Go.Proofs.YtnfidmjplhmblaaGreatDoor.Crc

/-- The seal of a text of at most 7996 bytes. -/
def sealB (s : ByteArray) : ByteArray := s ++ fourB (crcOf 0 s)

theorem size_sealB (s : ByteArray) : (sealB s).size = s.size + 4 := by simp [sealB, ByteArray.size_append, size_fourB]

set_option maxHeartbeats 400000 in
theorem specSeal_in (s : ByteArray) (w : World) (hs : s.size ≤ 7996) :
    Calls Tryz.prog 46 #[.string s] w fun e w' => e = .returned (.string (sealB s)) ∧ Below w.heap.size w w' := by
  have K1 : Hid (∀ w, Calls Tryz.prog 61 #[.int .i64 0, .string s] w fun e w' => e = .returned (.int .i64 (crcOf 0 s : Nat)) ∧ w' = w) := fun w => l01Crc_in 0 s w (by omega) (by omega)
  have hc := crcOf_lt (x := 0) (by omega) s
  have hz : (fourB (crcOf 0 s)).size ≤ 4 := Nat.le_of_eq (size_fourB _)
  go_enter Tryz.func46, Tryz.ntmps46
  go_wp2_with (first | (go_at_call 61; refine (K1.out _).mono ?_; rintro e w' ⟨rfl, rfl⟩) | (go_at_call 60; refine (l01Four_any _ _ hc).mono ?_; rintro e w' ⟨rfl, hb⟩))
  go_ret
  exact ⟨rfl, hb⟩

set_option maxHeartbeats 400000 in
theorem implSeal_in (s : ByteArray) (w : World) (hs : s.size ≤ 7996) :
    Calls Tryz.prog 69 #[.string s] w fun e w' => e = .returned (.string (sealB s)) ∧ Below w.heap.size w w' := by
  have K1 : Hid (∀ w, Calls Tryz.prog 87 #[.int .i64 0, .string s] w fun e w' => e = .returned (.int .i64 (crcOf 0 s : Nat)) ∧ w' = w) := fun w => crcMore_in 0 s w (by omega) (by omega)
  have hc := crcOf_lt (x := 0) (by omega) s
  have hz := size_fourB (crcOf 0 s)
  have hj : (fourB (crcOf 0 s)).size ≤ 10000000 := by omega
  have hs2 : s.size ≤ 10000000 := by omega
  clear hz
  go_enter Tryz.func69, Tryz.ntmps69
  go_wp2_with (first | (go_at_call 87; refine (K1.out _).mono ?_; rintro e w' ⟨rfl, rfl⟩) | (go_at_call 82; refine (sumText_any _ _ hc).mono ?_; rintro e w' ⟨rfl, hb⟩) | (go_at_call 71; refine (Join.join_any _ _ _ hs2 hj).mono ?_; rintro e w2 ⟨rfl, hb2⟩) | go_in)
  go_ret
  exact ⟨rfl, hb.trans (hb2.mono hb.size)⟩

theorem specSeal_out (s : ByteArray) (w : World) (hs : ¬ s.size ≤ 7996) :
    Calls Tryz.prog 46 #[.string s] w fun e w' => e = .returned (.string ByteArray.empty) ∧ w' = w := by
  go_enter Tryz.func46, Tryz.ntmps46
  go_wp2
  go_ret
  exact ⟨rfl, rfl⟩

theorem implSeal_out (s : ByteArray) (w : World) (hs : ¬ s.size ≤ 7996) :
    Calls Tryz.prog 69 #[.string s] w fun e w' => e = .returned (.string ByteArray.empty) ∧ w' = w := by
  go_enter Tryz.func69, Tryz.ntmps69
  go_wp2
  go_ret
  exact ⟨rfl, rfl⟩
end Go.Proofs.YtnfidmjplhmblaaGreatDoor.Seal

/- When a seal is right. -/
namespace Go.Proofs.YtnfidmjplhmblaaGreatDoor.Unseal
open Go.RowKit Go.Proofs.YtnfidmjplhmblaaGreatDoor.Mem Go.Proofs.YtnfidmjplhmblaaGreatDoor.Four Go.Proofs.YtnfidmjplhmblaaGreatDoor.Crc Go.Proofs.YtnfidmjplhmblaaGreatDoor.Seal

/-- Do the last four bytes hold the sum of those ahead of them? -/
def okSeal (s : ByteArray) : Bool := (fourB (crcOf 0 (s.extract 0 (s.size - 4)))).toList == (s.extract (s.size - 4) s.size).toList

theorem bcell {W w1 : World} (hb : Below W.heap.size W w1) : (∀ b o, b < W.heap.size → w1.cell? ⟨b, o, none⟩ = W.cell? ⟨b, o, none⟩) ∧ (∀ b o, b < W.heap.size → w1.frozen? ⟨b, o, none⟩ = W.frozen? ⟨b, o, none⟩) :=
  ⟨fun b o h => hb.cell (p := ⟨b, o, none⟩) h, fun b o h => hb.frozen (p := ⟨b, o, none⟩) h⟩

theorem list_eq (s : ByteArray) : s.toList = s.data.toList := ByteArray.toList_eq s

theorem seal_same (s : ByteArray) : ((sealB (s.extract 0 (s.size - 4))).toList == s.toList) = okSeal s := by
  unfold okSeal sealB
  have hs : s.data.toList = (s.extract 0 (s.size - 4)).data.toList ++ (s.extract (s.size - 4) s.size).data.toList := by
    rw [Lib.extract_data, Lib.extract_data]
    simp only [List.drop_zero, Nat.sub_zero]
    rw [List.take_of_length_le (l := List.drop (s.size - 4) s.data.toList) (by simp), List.take_append_drop]
  have ha : (s.extract 0 (s.size - 4) ++ fourB (crcOf 0 (s.extract 0 (s.size - 4)))).data.toList = (s.extract 0 (s.size - 4)).data.toList ++ (fourB (crcOf 0 (s.extract 0 (s.size - 4)))).data.toList := by simp
  rw [list_eq, list_eq, list_eq, list_eq, ha, Bool.eq_iff_iff, beq_iff_eq, beq_iff_eq]
  constructor
  · intro h
    rw [h] at ha
    rw [hs] at h
    exact List.append_cancel_left h
  · intro h
    rw [h, ← hs]

/-- What comes of a text of a right length. -/
def unsealV (s : ByteArray) : Value := if okSeal s = true then .agg #[.string (s.extract 0 (s.size - 4)), .int .i64 0, .int .i64 0] else .agg #[.string ByteArray.empty, .int .i64 0, .int .i64 5]

theorem empty_app (t : ByteArray) : (⟨#[]⟩ : ByteArray) ++ t = t := by
  apply ByteArray.ext; simp

end Go.Proofs.YtnfidmjplhmblaaGreatDoor.Unseal

/- A seal is right; with one byte turned it is not. -/
namespace Go.Proofs.YtnfidmjplhmblaaGreatDoor.Unseal
open Go.RowKit Go.Proofs.YtnfidmjplhmblaaGreatDoor.Four Go.Proofs.YtnfidmjplhmblaaGreatDoor.Crc Go.Proofs.YtnfidmjplhmblaaGreatDoor.Seal

theorem ba_ext {a b : ByteArray} (h : a.data.toList = b.data.toList) : a = b := by
  apply ByteArray.ext; exact Array.ext' h

theorem seal_size (t : ByteArray) : (sealB t).size = t.size + 4 := size_sealB t

theorem seal_data (t : ByteArray) : (sealB t).data.toList = t.data.toList ++ (fourB (crcOf 0 t)).data.toList := data_app _ _

theorem inner_seal (t : ByteArray) : (sealB t).extract 0 ((sealB t).size - 4) = t := by
  apply ba_ext
  rw [Lib.extract_data, seal_size, seal_data]
  simp

theorem tail_seal (t : ByteArray) : (sealB t).extract ((sealB t).size - 4) (sealB t).size = fourB (crcOf 0 t) := by
  apply ba_ext
  have hl : (fourB (crcOf 0 t)).data.toList.length = 4 := size_fourB _
  rw [Lib.extract_data, seal_size, seal_data, Nat.add_sub_cancel]
  rw [show t.size = t.data.toList.length from rfl, List.drop_left, List.take_of_length_le (by omega)]

theorem seal_ok (t : ByteArray) : okSeal (sealB t) = true := by
  unfold okSeal
  rw [inner_seal, tail_seal]
  simp

theorem unsealV_ok (t : ByteArray) : unsealV (sealB t) = .agg #[.string t, .int .i64 0, .int .i64 0] := by
  unfold unsealV
  rw [if_pos (seal_ok t), inner_seal]

/-- A text with one byte turned. -/
def turn (s : ByteArray) (j : Nat) (b : UInt8) : ByteArray := ⟨(s.data.toList.set j b).toArray⟩

theorem size_turn (s : ByteArray) (j : Nat) (b : UInt8) : (turn s j b).size = s.size := by
  show (s.data.toList.set j b).toArray.size = _
  simp

theorem data_turn (s : ByteArray) (j : Nat) (b : UInt8) : (turn s j b).data.toList = s.data.toList.set j b := rfl

theorem four_inj {m n : Nat} (hm : m < 4294967296) (hn : n < 4294967296) (h : fourB m = fourB n) : m = n := by
  have hl := congrArg (fun s : ByteArray => s.data.toList) h
  simp only [fourB, List.cons.injEq] at hl
  obtain ⟨h0, h1, h2, h3, _⟩ := hl
  have e0 := congrArg UInt8.toNat h0
  have e1 := congrArg UInt8.toNat h1
  have e2 := congrArg UInt8.toNat h2
  have e3 := congrArg UInt8.toNat h3
  simp at e0 e1 e2 e3
  omega

theorem seal_turned (t : ByteArray) (j : Nat) (b : UInt8) (hj : j < t.size + 4) (hne : b ≠ (sealB t)[j]?.getD 0) : okSeal (turn (sealB t) j b) = false := by
  have hz : (turn (sealB t) j b).size = t.size + 4 := by rw [size_turn, seal_size]
  have hl4 : (fourB (crcOf 0 t)).data.toList.length = 4 := size_fourB _
  have hlt : t.data.toList.length = t.size := rfl
  unfold okSeal
  rw [hz, Nat.add_sub_cancel, list_eq, list_eq, Lib.extract_data, data_turn, seal_data, beq_eq_false_iff_ne]
  have hbyte : (sealB t)[j]?.getD 0 = (t.data.toList ++ (fourB (crcOf 0 t)).data.toList)[j]?.getD 0 := by rw [at_list, seal_data]
  rw [hbyte] at hne
  by_cases hjt : j < t.size
  · -- a byte of the text
    have e1 : (t.data.toList ++ (fourB (crcOf 0 t)).data.toList).set j b = t.data.toList.set j b ++ (fourB (crcOf 0 t)).data.toList := List.set_append_left _ _ (by omega)
    have e2 : (turn (sealB t) j b).extract 0 t.size = turn t j b := by
      apply ba_ext
      rw [Lib.extract_data, data_turn, data_turn, seal_data, e1]
      simp
    rw [e2, e1, show t.size = (t.data.toList.set j b).length by simp, List.drop_left, List.take_of_length_le (by omega)]
    intro h
    have hd : crcOf 0 (turn t j b) = crcOf 0 t := four_inj (crcOf_lt (by omega) _) (crcOf_lt (by omega) _) (ba_ext h)
    refine crcOf_diff (size_turn t j b) hjt ?_ ?_ hd
    · rw [at_list, at_list, data_turn]
      rw [List.getElem?_append_left (by omega)] at hne
      simpa [hlt, hjt] using hne
    · intro i hi
      rw [at_list, at_list, data_turn, List.getElem?_set_ne (fun e => hi e.symm)]
  · -- a byte of the sum
    have e1 : (t.data.toList ++ (fourB (crcOf 0 t)).data.toList).set j b = t.data.toList ++ (fourB (crcOf 0 t)).data.toList.set (j - t.size) b := by
      rw [List.set_append_right _ _ (by omega), hlt]
    have e2 : (turn (sealB t) j b).extract 0 t.size = t := by
      apply ba_ext
      rw [Lib.extract_data, data_turn, seal_data, e1]
      simp
    rw [e2, e1, show t.size = t.data.toList.length from rfl, List.drop_left, List.take_of_length_le (by simp [hl4])]
    intro h
    rw [List.getElem?_append_right (by omega), hlt] at hne
    have hx := congrArg (fun l : List UInt8 => l[j - t.size]?.getD 0) h
    rw [show t.data.toList.length = t.size from rfl] at hx
    have hin : j - t.size < (fourB (crcOf 0 t)).data.toList.length := by omega
    rw [List.getElem?_set_self hin] at hx
    exact hne (by simpa using hx.symm)
end Go.Proofs.YtnfidmjplhmblaaGreatDoor.Unseal
