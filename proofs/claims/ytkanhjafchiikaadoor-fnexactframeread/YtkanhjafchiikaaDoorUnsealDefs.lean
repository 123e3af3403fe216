/- When a seal is right. -/
import Derived.Test.YtkanhjafchiikaaDoorRows
import Derived.Test.YtkanhjafchiikaaDoorTextsC
import Derived.Lib.Strings
namespace Go.Proofs.YtkanhjafchiikaaDoor.Unseal
open Go.RowKit Go.Proofs.YtkanhjafchiikaaDoor.Mem Go.Proofs.YtkanhjafchiikaaDoor.Four Go.Proofs.YtkanhjafchiikaaDoor.Crc Go.Proofs.YtkanhjafchiikaaDoor.Seal

/-- Do the last four bytes hold the sum of those ahead of them? -/
def okSeal (s : ByteArray) : Bool := (fourB (crcOf 0 (s.extract 0 (s.size - 4)))).toList == (s.extract (s.size - 4) s.size).toList

theorem bcell {W w1 : World} (hb : Below W.heap.size W w1) : (∀ b o, b < W.heap.size → w1.cell? ⟨b, o, none⟩ = W.cell? ⟨b, o, none⟩) ∧ (∀ b o, b < W.heap.size → w1.frozen? ⟨b, o, none⟩ = W.frozen? ⟨b, o, none⟩) :=
  ⟨fun b o h => hb.cell (p := ⟨b, o, none⟩) h, fun b o h => hb.frozen (p := ⟨b, o, none⟩) h⟩

theorem list_eq (s : ByteArray) : s.toList = s.data.toList := ByteArray.toList_eq s

theorem seal_same (s : ByteArray) : ((sealB (s.extract 0 (s.size - 4))).toList == s.toList) = okSeal s := by
  unfold okSeal sealB
  have hs : s.data.toList = (s.extract 0 (s.size - 4)).data.toList ++ (s.extract (s.size - 4) s.size).data.toList := by
    rw [Lib.extract_data, Lib.extract_data]
    simp only [List.drop_zero, Nat.sub_zero]
    rw [List.take_of_length_le (l := List.drop (s.size - 4) s.data.toList) (by simp), List.take_append_drop]
  have ha : (s.extract 0 (s.size - 4) ++ fourB (crcOf 0 (s.extract 0 (s.size - 4)))).data.toList = (s.extract 0 (s.size - 4)).data.toList ++ (fourB (crcOf 0 (s.extract 0 (s.size - 4)))).data.toList := by simp
  rw [list_eq, list_eq, list_eq, list_eq, ha, Bool.eq_iff_iff, beq_iff_eq, beq_iff_eq]
  constructor
  · intro h
    rw [h] at ha
    rw [hs] at h
    exact List.append_cancel_left h
  · intro h
    rw [h, ← hs]

/-- What comes of a text of a right length. -/
def unsealV (s : ByteArray) : Value := if okSeal s = true then .agg #[.string (s.extract 0 (s.size - 4)), .int .i64 0, .int .i64 0] else .agg #[.string ByteArray.empty, .int .i64 0, .int .i64 5]

theorem empty_app (t : ByteArray) : (⟨#[]⟩ : ByteArray) ++ t = t := by
  apply ByteArray.ext; simp

end Go.Proofs.YtkanhjafchiikaaDoor.Unseal
