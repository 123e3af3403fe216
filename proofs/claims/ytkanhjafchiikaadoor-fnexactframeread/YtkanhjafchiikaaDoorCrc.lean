/- What the CRC functions of the program and of the model answer, by contracts. -/
import Derived.Test.YtkanhjafchiikaaDoorRows
import Derived.Test.YtkanhjafchiikaaDoorTextsA
import Derived.WalkKit
import Derived.Below
namespace Go.Proofs.YtkanhjafchiikaaDoor.Crc
open Go.RowKit

theorem ret_int {k : IntKind} {a b : Int} (h : a = b) : Ending.returned (.int k a) = .returned (.int k b) := by rw [h]
theorem val_int {k : IntKind} {a b : Int} (h : a = b) : Value.int k a = .int k b := by rw [h]
theorem at_lt (s : ByteArray) (k : Nat) (h : k < s.size) : s[k]?.getD 0 = s[k] := by simp [h]

set_option maxHeartbeats 400000 in
theorem crcByte_any (r : Nat) (c : UInt8) (w : World) (hr : r < 4294967296) :
    Calls Tryd.prog 50 #[.int .u32 r, .int .u8 c.toNat] w fun e w' => e = .returned (.int .u32 (byteS r c.toNat : Nat)) ∧ w' = w := by
  have hc := byte_lt c
  have hm : ((c.toNat : Nat) : Int) % 4294967296 = c.toNat := by omega
  have hx0 : bits .xor .u32 (r : Int) (c.toNat : Int) = ((r ^^^ c.toNat : Nat) : Int) := xor32 hr (by omega)
  have h0 : r ^^^ c.toNat < 4294967296 := xor_lt hr (by omega)
  go_enter Tryd.func50, Tryd.ntmps50
  go_wp2
  go_loop [0, 5] (fun r' i => ∃ (k : Nat), k ≤ 8 ∧ i = .int .i64 k ∧ r' = .int .u32 (itS k (r ^^^ c.toNat) : Nat)) (fun _ i => 8 - (intOf i).toNat)
  case atStart => exact ⟨0, by omega, rfl, rfl⟩
  case round =>
    obtain ⟨k, hk, rfl, rfl⟩ := hrel
    have hx := itS_lt h0 k
    have hs : itS (k + 1) (r ^^^ c.toNat) = bitS (itS k (r ^^^ c.toNat)) := rfl
    have HS : Hid (itS (k + 1) (r ^^^ c.toNat) = bitS (itS k (r ^^^ c.toNat))) := hs
    have HE : Hid (byteS r c.toNat = itS 8 (r ^^^ c.toNat)) := rfl
    clear hs hx0 hm hc
    generalize hg : itS k (r ^^^ c.toNat) = x at *
    have HG : Hid (itS k (r ^^^ c.toNat) = x) := hg
    clear hg
    by_cases hlt : k < 8
    · by_cases e : x % 2 = 1
      · have ht := test_yes hx e
        have he := bit_yes hx e
        go_wp2
        go_round
        case rel => exact ⟨k + 1, by omega, by go_num, val_int (by rw [HS.out])⟩
        case measure => simp [intOf]; omega
      · have ht := test_no hx e
        go_wp2
        go_round
        case rel => exact ⟨k + 1, by omega, by go_num, val_int (by rw [HS.out]; exact bit_no e)⟩
        case measure => simp [intOf]; omega
    · go_wp2
      go_ret
      have e8 : k = 8 := by omega
      subst e8
      exact ⟨ret_int (by rw [HE.out, HG.out]), rfl⟩

theorem max32 : IntKind.u32.max = 4294967295 := by simp [IntKind.max, IntKind.bits, IntKind.signed]

set_option maxHeartbeats 400000 in
theorem crcMore_in (r : Nat) (s : ByteArray) (w : World) (hr : r < 4294967296) (hs : s.size ≤ 8000) :
    Calls Tryd.prog 47 #[.int .i64 r, .string s] w fun e w' => e = .returned (.int .i64 (crcOf r s : Nat)) ∧ w' = w := by
  have hm := max32
  have hx0 : bits .xor .u32 4294967295 (r : Int) = ((r ^^^ 4294967295 : Nat) : Int) := xorM' hr
  have h0 : r ^^^ 4294967295 < 4294967296 := xor_lt hr (by omega)
  have HE : Hid (crcOf r s = crcTo s (r ^^^ 4294967295) s.size ^^^ 4294967295) := rfl
  generalize r ^^^ 4294967295 = q at *
  go_enter Tryd.func47, Tryd.ntmps47
  go_wp2
  go_loop [5, 6] (fun r' i => ∃ (k : Nat), k ≤ s.size ∧ i = .int .i64 k ∧ r' = .int .u32 (crcTo s q k : Nat)) (fun _ i => s.size - (intOf i).toNat)
  case atStart => exact ⟨0, by omega, rfl, rfl⟩
  case round =>
    obtain ⟨k, hk, rfl, rfl⟩ := hrel
    have hx := crcTo_lt s h0 k
    clear hx0
    by_cases hlt : k < s.size
    · have HS : Hid (crcTo s q (k + 1) = byteS (crcTo s q k) s[k].toNat) := by rw [← at_lt s k hlt]; rfl
      go_wp2_with (go_at_call 50; refine (crcByte_any _ _ _ hx).mono ?_; rintro e w' ⟨rfl, rfl⟩)
      go_round
      case rel => exact ⟨k + 1, by omega, by go_num, val_int (by rw [HS.out])⟩
      case measure => simp [intOf]; omega
    · have e : k = s.size := by omega
      subst e
      have hx1 : bits .xor .u32 4294967295 (crcTo s q s.size : Int) = ((crcTo s q s.size ^^^ 4294967295 : Nat) : Int) := xorM' hx
      have hx2 : crcTo s q s.size ^^^ 4294967295 < 4294967296 := xor_lt hx (by omega)
      go_wp2
      go_ret
      exact ⟨ret_int (by rw [HE.out]), rfl⟩

set_option maxHeartbeats 400000 in
theorem l01Crc_in (r : Nat) (s : ByteArray) (w : World) (hr : r < 4294967296) (hs : s.size ≤ 8000) :
    Calls Tryd.prog 16 #[.int .i64 r, .string s] w fun e w' => e = .returned (.int .i64 (crcOf r s : Nat)) ∧ w' = w := by
  have hx0 : bits .xor .u32 (r : Int) 4294967295 = ((r ^^^ 4294967295 : Nat) : Int) := xorM hr
  have h0 : r ^^^ 4294967295 < 4294967296 := xor_lt hr (by omega)
  have HE : Hid (crcOf r s = crcTo s (r ^^^ 4294967295) s.size ^^^ 4294967295) := rfl
  generalize r ^^^ 4294967295 = q at *
  go_enter Tryd.func16, Tryd.ntmps16
  go_wp2
  go_loop [5, 6] (fun r' i => ∃ (k : Nat), k ≤ s.size ∧ i = .int .i64 k ∧ r' = .int .u32 (crcTo s q k : Nat)) (fun _ i => s.size - (intOf i).toNat)
  case atStart => exact ⟨0, by omega, rfl, rfl⟩
  case round =>
    obtain ⟨k, hk, rfl, rfl⟩ := hrel
    have hx := crcTo_lt s h0 k
    clear hx0
    by_cases hlt : k < s.size
    · have HS : Hid (crcTo s q (k + 1) = byteS (crcTo s q k) s[k].toNat) := by rw [← at_lt s k hlt]; rfl
      have hc := byte_lt s[k]
      have hm : ((s[k].toNat : Nat) : Int) % 4294967296 = s[k].toNat := by omega
      have hx1 : bits .xor .u32 (crcTo s q k : Int) (s[k].toNat : Int) = ((crcTo s q k ^^^ s[k].toNat : Nat) : Int) := xor32 hx (by omega)
      have hy : crcTo s q k ^^^ s[k].toNat < 4294967296 := xor_lt hx (by omega)
      have HB : Hid (byteS (crcTo s q k) s[k].toNat = itS 8 (crcTo s q k ^^^ s[k].toNat)) := rfl
      go_wp2
      go_loop [5, 7] (fun r' i => ∃ (j : Nat), j ≤ 8 ∧ i = .int .i64 j ∧ r' = .int .u32 (itS j (crcTo s q k ^^^ s[k].toNat) : Nat)) (fun _ i => 8 - (intOf i).toNat)
      case atStart => exact ⟨0, by omega, rfl, rfl⟩
      case round =>
        obtain ⟨j, hj, rfl, rfl⟩ := hrel
        have hz := itS_lt hy j
        have HT : Hid (itS (j + 1) (crcTo s q k ^^^ s[k].toNat) = bitS (itS j (crcTo s q k ^^^ s[k].toNat))) := rfl
        clear hx1 hm hc
        generalize hg : itS j (crcTo s q k ^^^ s[k].toNat) = x at *
        have HG : Hid (itS j (crcTo s q k ^^^ s[k].toNat) = x) := hg
        clear hg
        by_cases hlj : j < 8
        · by_cases e : x % 2 = 1
          · have ht := test_yes hz e
            have he := bit_yes hz e
            go_wp2
            go_round
            case rel => exact ⟨j + 1, by omega, by go_num, val_int (by rw [HT.out])⟩
            case measure => simp [intOf]; omega
          · have ht := test_no hz e
            go_wp2
            go_round
            case rel => exact ⟨j + 1, by omega, by go_num, val_int (by rw [HT.out]; exact bit_no e)⟩
            case measure => simp [intOf]; omega
        · have e8 : j = 8 := by omega
          subst e8
          go_wp2
          go_round
          case rel => exact ⟨k + 1, by omega, by go_num, val_int (by rw [HS.out, HB.out, HG.out])⟩
          case measure => simp [intOf]; omega
    · have e : k = s.size := by omega
      subst e
      have hx1 : bits .xor .u32 (crcTo s q s.size : Int) 4294967295 = ((crcTo s q s.size ^^^ 4294967295 : Nat) : Int) := xorM hx
      have hx2 : crcTo s q s.size ^^^ 4294967295 < 4294967296 := xor_lt hx (by omega)
      go_wp2
      go_ret
      exact ⟨ret_int (by rw [HE.out]), rfl⟩
end Go.Proofs.YtkanhjafchiikaaDoor.Crc
