/- What FnSeal meets on its road besides: a text as bytes, one of them turned, and back; a CRC of whatever register. -/
import Derived.Test.YtednbehelcfopaaSealTheory
import Derived.Test.YtednbehelcfopaaImplUnseal
import Derived.Test.YtednbehelcfopaaDrawSeal
import Derived.Laws.IdiomStrings
namespace Go.Proofs.Ytednbehelcfopaa.SealLaws
open Go.RowKit Go.Proofs.Ytednbehelcfopaa.Mem Go.Proofs.Ytednbehelcfopaa.Four Go.Proofs.Ytednbehelcfopaa.Crc Go.Proofs.Ytednbehelcfopaa.Seal Go.Proofs.Ytednbehelcfopaa.Unseal Go.Proofs.Ytednbehelcfopaa.Draw

/-- '[]byte(s)': a row of its own. -/
theorem bytes_of (s : ByteArray) (w : World) : ∃ W1 cap, (convert 9 22 (.string s)).run Try.prog w = .ok (.slice (some ⟨w.heap.size, 0, none⟩) s.size cap) W1 ∧ s.size ≤ cap ∧
    (∀ j, j < s.size → W1.cell? ⟨w.heap.size, j, none⟩ = some (.int .u8 ((s[j]?.getD 0).toNat : Int))) ∧ (∀ j, j < s.size → W1.frozen? ⟨w.heap.size, j, none⟩ = false) ∧ Below w.heap.size w W1 ∧ w.heap.size < W1.heap.size := by
  refine ⟨_, _, run_bytes_of_string w 9 22 5 s underS under under8, grownCap_ge _ _ _ _, ?_, ?_, ?_, ?_⟩
  · intro j hj
    have := World.cell?_alloc_mark w.drew (bytesRow s (grownCap w s.size 0 5)) 5 ((bytesRow s (grownCap w s.size 0 5)).size, (bytesRow s (grownCap w s.size 0 5)).size + 1) j
    refine Eq.trans this ?_
    rw [bytesRow_at s _ j hj, at_list, List.getElem?_eq_getElem (by exact hj)]
    rfl
  · intro j hj
    have := World.frozen?_alloc_mark w.drew (bytesRow s (grownCap w s.size 0 5)) 5 (bytesRow s (grownCap w s.size 0 5)).size ((bytesRow s (grownCap w s.size 0 5)).size + 1) j
    refine Eq.trans this ?_
    have hs : s.size ≤ (bytesRow s (grownCap w s.size 0 5)).size := by
      unfold bytesRow; simp
    simp; omega
  · exact ((Below.refl _ _).drew).alloc (Nat.le_refl _) _
  · simp

/-- 'string(b)' of such a row, one byte of it turned, wherever nothing of it has turned since. -/
theorem turned_text (s : ByteArray) (g cap j : Nat) (W : World) (x : Int) (b : UInt8) (hx : x = (b.toNat : Int)) (hj : j < s.size)
    (hc : ∀ i, i < s.size → W.cell? ⟨g, i, none⟩ = if i = j then some (.int .u8 x) else some (.int .u8 ((s[i]?.getD 0).toNat : Int))) :
    (convert 22 9 (.slice (some ⟨g, 0, none⟩) s.size cap)).run Try.prog W = .ok (.string (turn s j b)) W := by
  have hl : (s.data.toList.set j b).length = s.size := by simp
  have := run_convert_bytes_back (P := Try.prog) W 22 9 5 ⟨g, 0, none⟩ cap (s.data.toList.set j b) under under8 underS ?_
  · rw [hl] at this
    exact this
  · intro i hi
    have ha : (⟨g, 0, none⟩ : Addr).add i = ⟨g, i, none⟩ := by unfold Addr.add; split <;> simp_all
    rw [ha, hc i (by omega)]
    by_cases e : i = j
    · subst e; simp [hx]
    · rw [if_neg e, at_list, List.getElem?_eq_getElem (by simpa using hi), List.getElem_set_ne (fun h => e h.symm)]
      rfl

/-- The CRC that goes on from whatever number. -/
def crcV (c : Int) (u : ByteArray) : Int := if 0 ≤ c ∧ c ≤ 4294967295 then (crcOf c.toNat u : Nat) else 0

theorem implCrcMore_all (c : Int) (u : ByteArray) (w : World) (hu : u.size ≤ 8000) :
    Calls Try.prog 10 #[.int .i64 c, .string u] w fun e w' => e = .returned (.int .i64 (crcV c u)) ∧ w = w' := by
  by_cases h : 0 ≤ c ∧ c ≤ 4294967295
  · obtain ⟨n, rfl⟩ := Int.eq_ofNat_of_zero_le h.1
    have hv : crcV (n : Int) u = (crcOf n u : Nat) := by unfold crcV; rw [if_pos h]; rfl
    rw [hv]
    exact (crcMore_in n u w (by omega) hu).mono (fun e w' ⟨h1, h2⟩ => ⟨h1, h2.symm⟩)
  · have HV : Hid (crcV c u = 0) := by show _ = _; unfold crcV; rw [if_neg h]
    by_cases hn : c < 0
    · go_enter Try.func10, Try.ntmps10
      go_wp2
      go_ret
      exact ⟨ret_int HV.out.symm, rfl⟩
    · have hg : 4294967295 < c := by omega
      go_enter Try.func10, Try.ntmps10
      go_wp2
      go_ret
      exact ⟨ret_int HV.out.symm, rfl⟩

theorem specCrcMore_all (c : Int) (u : ByteArray) (w : World) (hu : u.size ≤ 8000) :
    Calls Try.prog 11 #[.int .i64 c, .string u] w fun e w' => e = .returned (.int .i64 (crcV c u)) ∧ w = w' := by
  by_cases h : 0 ≤ c ∧ c ≤ 4294967295
  · obtain ⟨n, rfl⟩ := Int.eq_ofNat_of_zero_le h.1
    have HV : Hid (crcV (n : Int) u = (crcOf n u : Nat)) := by show _ = _; unfold crcV; rw [if_pos h]; rfl
    have K : Hid (∀ w, Calls Try.prog 20 #[.int .i64 n, .string u] w fun e w' => e = .returned (.int .i64 (crcOf n u : Nat)) ∧ w' = w) := fun w => l01Crc_in n u w (by omega) hu
    have h1 := h.2
    clear h
    go_enter Try.func11, Try.ntmps11
    go_wp2_with (go_at_call 20; refine (K.out _).mono ?_; rintro e w' ⟨rfl, hw⟩; obtain rfl := hw.symm)
    go_ret
    exact ⟨ret_int HV.out.symm, rfl⟩
  · have HV : Hid (crcV c u = 0) := by show _ = _; unfold crcV; rw [if_neg h]
    by_cases hn : c < 0
    · go_enter Try.func11, Try.ntmps11
      go_wp2
      go_ret
      exact ⟨ret_int HV.out.symm, rfl⟩
    · have hg : 4294967295 < c := by omega
      go_enter Try.func11, Try.ntmps11
      go_wp2
      go_ret
      exact ⟨ret_int HV.out.symm, rfl⟩

theorem implCrc_in (u : ByteArray) (w : World) (hu : u.size ≤ 8000) :
    Calls Try.prog 12 #[.string u] w fun e w' => e = .returned (.int .i64 (crcOf 0 u : Nat)) ∧ w = w' := by
  have K : Hid (∀ w, Calls Try.prog 10 #[.int .i64 0, .string u] w fun e w' => e = .returned (.int .i64 (crcOf 0 u : Nat)) ∧ w' = w) := fun w => crcMore_in 0 u w (by omega) hu
  go_enter Try.func12, Try.ntmps12
  go_wp2_with (go_at_call 10; refine (K.out _).mono ?_; rintro e w' ⟨rfl, hw⟩; obtain rfl := hw.symm)
  go_ret
  exact ⟨rfl, rfl⟩

/-- A byte turned by something other than 0 is another one. -/
theorem xor_other (x : UInt8) (d : Nat) (h0 : 1 ≤ d) (h1 : d ≤ 255) : bits .xor .u8 (x.toNat : Int) (d : Int) = ((x ^^^ UInt8.ofNat d).toNat : Int) ∧ x ^^^ UInt8.ofNat d ≠ x := by
  have hx := Crc.byte_lt x
  have e := u8_xor_nat x.toNat d hx (by omega)
  have hd : (UInt8.ofNat d).toNat = d := by simp; omega
  refine ⟨?_, ?_⟩
  · rw [e, UInt8.toNat_xor, hd]
  · intro hc
    have := congrArg UInt8.toNat hc
    rw [UInt8.toNat_xor, hd] at this
    have h2 : x.toNat ^^^ d = x.toNat ^^^ 0 := by simpa using this
    have := xor_inj_left h2
    omega
end Go.Proofs.Ytednbehelcfopaa.SealLaws
