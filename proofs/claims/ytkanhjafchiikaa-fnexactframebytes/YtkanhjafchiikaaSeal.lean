/- What the two Seal functions answer, by contracts. -/
import Derived.Test.YtkanhjafchiikaaRows
import Derived.Test.YtkanhjafchiikaaCrc
import Derived.Test.YtkanhjafchiikaaFour
namespace Go.Proofs.Ytkanhjafchiikaa.Seal
open Go.RowKit Go.Proofs.Ytkanhjafchiikaa.Mem Go.Proofs.Ytkanhjafchiikaa.Four Go.Proofs.Ytkanhjafchiikaa.Crc

/-- The seal of a text of at most 7996 bytes. -/
def sealB (s : ByteArray) : ByteArray := s ++ fourB (crcOf 0 s)

theorem size_sealB (s : ByteArray) : (sealB s).size = s.size + 4 := by simp [sealB, ByteArray.size_append, size_fourB]

set_option maxHeartbeats 400000 in
theorem specSeal_in (s : ByteArray) (w : World) (hs : s.size ≤ 7996) :
    Calls Try.prog 66 #[.string s] w fun e w' => e = .returned (.string (sealB s)) ∧ Below w.heap.size w w' := by
  have K1 : Hid (∀ w, Calls Try.prog 81 #[.int .i64 0, .string s] w fun e w' => e = .returned (.int .i64 (crcOf 0 s : Nat)) ∧ w' = w) := fun w => l01Crc_in 0 s w (by omega) (by omega)
  have hc := crcOf_lt (x := 0) (by omega) s
  have hz : (fourB (crcOf 0 s)).size ≤ 4 := Nat.le_of_eq (size_fourB _)
  go_enter Try.func66, Try.ntmps66
  go_wp2_with (first | (go_at_call 81; refine (K1.out _).mono ?_; rintro e w' ⟨rfl, rfl⟩) | (go_at_call 80; refine (l01Four_any _ _ hc).mono ?_; rintro e w' ⟨rfl, hb⟩))
  go_ret
  exact ⟨rfl, hb⟩

set_option maxHeartbeats 400000 in
theorem implSeal_in (s : ByteArray) (w : World) (hs : s.size ≤ 7996) :
    Calls Try.prog 54 #[.string s] w fun e w' => e = .returned (.string (sealB s)) ∧ Below w.heap.size w w' := by
  have K1 : Hid (∀ w, Calls Try.prog 83 #[.int .i64 0, .string s] w fun e w' => e = .returned (.int .i64 (crcOf 0 s : Nat)) ∧ w' = w) := fun w => crcMore_in 0 s w (by omega) (by omega)
  have hc := crcOf_lt (x := 0) (by omega) s
  have hz := size_fourB (crcOf 0 s)
  have hj : (fourB (crcOf 0 s)).size ≤ 10000000 := by omega
  have hs2 : s.size ≤ 10000000 := by omega
  clear hz
  go_enter Try.func54, Try.ntmps54
  go_wp2_with (first | (go_at_call 83; refine (K1.out _).mono ?_; rintro e w' ⟨rfl, rfl⟩) | (go_at_call 71; refine (sumText_any _ _ hc).mono ?_; rintro e w' ⟨rfl, hb⟩) | (go_at_call 70; refine (Join.join_any _ _ _ hs2 hj).mono ?_; rintro e w2 ⟨rfl, hb2⟩) | go_in)
  go_ret
  exact ⟨rfl, hb.trans (hb2.mono hb.size)⟩

theorem specSeal_out (s : ByteArray) (w : World) (hs : ¬ s.size ≤ 7996) :
    Calls Try.prog 66 #[.string s] w fun e w' => e = .returned (.string ByteArray.empty) ∧ w' = w := by
  go_enter Try.func66, Try.ntmps66
  go_wp2
  go_ret
  exact ⟨rfl, rfl⟩

theorem implSeal_out (s : ByteArray) (w : World) (hs : ¬ s.size ≤ 7996) :
    Calls Try.prog 54 #[.string s] w fun e w' => e = .returned (.string ByteArray.empty) ∧ w' = w := by
  go_enter Try.func54, Try.ntmps54
  go_wp2
  go_ret
  exact ⟨rfl, rfl⟩
end Go.Proofs.Ytkanhjafchiikaa.Seal
