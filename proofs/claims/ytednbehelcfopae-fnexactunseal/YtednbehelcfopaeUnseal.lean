/- What the two Unseal functions answer, by contracts. -/
import Derived.Test.YtednbehelcfopaeRows
import Derived.Test.YtednbehelcfopaeSeal
import Derived.Deep.RegionWith
import Derived.Lib.Strings
namespace Go.Proofs.Ytednbehelcfopae.Unseal
open Go.RowKit Go.Proofs.Ytednbehelcfopae.Mem Go.Proofs.Ytednbehelcfopae.Four Go.Proofs.Ytednbehelcfopae.Crc Go.Proofs.Ytednbehelcfopae.Seal

/-- Do the last four bytes hold the sum of those ahead of them? -/
def okSeal (s : ByteArray) : Bool := (fourB (crcOf 0 (s.extract 0 (s.size - 4)))).toList == (s.extract (s.size - 4) s.size).toList

theorem bcell {W w1 : World} (hb : Below W.heap.size W w1) : (∀ b o, b < W.heap.size → w1.cell? ⟨b, o, none⟩ = W.cell? ⟨b, o, none⟩) ∧ (∀ b o, b < W.heap.size → w1.frozen? ⟨b, o, none⟩ = W.frozen? ⟨b, o, none⟩) :=
  ⟨fun b o h => hb.cell (p := ⟨b, o, none⟩) h, fun b o h => hb.frozen (p := ⟨b, o, none⟩) h⟩

theorem list_eq (s : ByteArray) : s.toList = s.data.toList := ByteArray.toList_eq s

theorem seal_same (s : ByteArray) : ((sealB (s.extract 0 (s.size - 4))).toList == s.toList) = okSeal s := by
  unfold okSeal sealB
  have hs : s.data.toList = (s.extract 0 (s.size - 4)).data.toList ++ (s.extract (s.size - 4) s.size).data.toList := by
    rw [Lib.extract_data, Lib.extract_data]
    simp only [List.drop_zero, Nat.sub_zero]
    rw [List.take_of_length_le (l := List.drop (s.size - 4) s.data.toList) (by simp), List.take_append_drop]
  have ha : (s.extract 0 (s.size - 4) ++ fourB (crcOf 0 (s.extract 0 (s.size - 4)))).data.toList = (s.extract 0 (s.size - 4)).data.toList ++ (fourB (crcOf 0 (s.extract 0 (s.size - 4)))).data.toList := by simp
  rw [list_eq, list_eq, list_eq, list_eq, ha, Bool.eq_iff_iff, beq_iff_eq, beq_iff_eq]
  constructor
  · intro h
    rw [h] at ha
    rw [hs] at h
    exact List.append_cancel_left h
  · intro h
    rw [h, ← hs]

theorem specUnseal_big (s : ByteArray) (w : World) (hs : 8000 < s.size) (hm : s.size ≤ 1048576) :
    Calls Try.prog 10 #[.string s] w fun e w' => e = .returned (.agg #[.string ByteArray.empty, .int .i64 0, .int .i64 2]) ∧ Below w.heap.size w w' := by
  go_enter Try.func10, Try.ntmps10
  go_wp2
  exact bodyPost_ret (v := .agg #[.string ByteArray.empty, .int .i64 0, .int .i64 2]) (by simp [results, Try.results10, go_sem]; rfl) rfl ⟨rfl, (Below.refl _ _).alloc (Nat.le_refl _) _⟩

theorem implUnseal_big (s : ByteArray) (w : World) (hs : 8000 < s.size) (hm : s.size ≤ 1048576) :
    Calls Try.prog 11 #[.string s] w fun e w' => e = .returned (.agg #[.string ByteArray.empty, .int .i64 0, .int .i64 2]) ∧ Below w.heap.size w w' := by
  go_enter Try.func11, Try.ntmps11
  go_wp2
  exact bodyPost_ret (v := .agg #[.string ByteArray.empty, .int .i64 0, .int .i64 2]) (by simp [results, Try.results11, go_sem]; rfl) rfl ⟨rfl, (Below.refl _ _).alloc (Nat.le_refl _) _⟩

theorem specUnseal_short (s : ByteArray) (w : World) (hs : s.size < 4) :
    Calls Try.prog 10 #[.string s] w fun e w' => e = .returned (.agg #[.string ByteArray.empty, .int .i64 0, .int .i64 4]) ∧ Below w.heap.size w w' := by
  go_enter Try.func10, Try.ntmps10
  go_wp2
  exact bodyPost_ret (v := .agg #[.string ByteArray.empty, .int .i64 0, .int .i64 4]) (by simp [results, Try.results10, go_sem]; rfl) rfl ⟨rfl, (Below.refl _ _).alloc (Nat.le_refl _) _⟩

theorem implUnseal_short (s : ByteArray) (w : World) (hs : s.size < 4) :
    Calls Try.prog 11 #[.string s] w fun e w' => e = .returned (.agg #[.string ByteArray.empty, .int .i64 0, .int .i64 4]) ∧ Below w.heap.size w w' := by
  go_enter Try.func11, Try.ntmps11
  go_wp2
  exact bodyPost_ret (v := .agg #[.string ByteArray.empty, .int .i64 0, .int .i64 4]) (by simp [results, Try.results11, go_sem]; rfl) rfl ⟨rfl, (Below.refl _ _).alloc (Nat.le_refl _) _⟩

/-- What comes of a text of a right length. -/
def unsealV (s : ByteArray) : Value := if okSeal s = true then .agg #[.string (s.extract 0 (s.size - 4)), .int .i64 0, .int .i64 0] else .agg #[.string ByteArray.empty, .int .i64 0, .int .i64 5]

set_option maxHeartbeats 1000000 in
theorem specUnseal_in (s : ByteArray) (w : World) (hs : s.size ≤ 8000) (h4 : 4 ≤ s.size) :
    Calls Try.prog 10 #[.string s] w fun e w' => e = .returned (unsealV s) ∧ Below w.heap.size w w' := by
  have hx : (s.extract 0 (s.size - 4)).size ≤ 7996 := by simp [ByteArray.size_extract]; omega
  have K1 : Hid (∀ w, Calls Try.prog 13 #[.int .i64 0, .string (s.extract 0 (s.size - 4))] w fun e w' => e = .returned (.int .i64 (crcOf 0 (s.extract 0 (s.size - 4)) : Nat)) ∧ w' = w) := fun w => l01Crc_in 0 _ w (by omega) (by omega)
  have hc := crcOf_lt (x := 0) (by omega) (s.extract 0 (s.size - 4))
  have hA : (4 : Int) ≤ (s.size : Int) := by omega
  have hB : (s.size : Int) - 4 ≤ (s.size : Int) := by omega
  have hW : IntKind.i64.wrap ((s.size : Int) - 4) = (s.size : Int) - 4 := IntWalk.i64_in _ ⟨by omega, by omega⟩
  have hN : ((s.size : Int) - 4).toNat = s.size - 4 := by omega
  have HV : Hid (unsealV s = if okSeal s = true then .agg #[.string (s.extract 0 (s.size - 4)), .int .i64 0, .int .i64 0] else .agg #[.string ByteArray.empty, .int .i64 0, .int .i64 5]) := rfl
  cases hq : okSeal s
  all_goals
    have HQ : Hid (okSeal s = _) := hq
    unfold okSeal at hq
    go_enter Try.func10, Try.ntmps10
    go_wp2
    go_region_with (first | (go_at_call 13; refine (K1.out _).mono ?_; rintro e w' ⟨rfl, rfl⟩) | (go_at_call 15; refine (l01Four_any _ _ hc).mono ?_; rintro e w' ⟨rfl, hb⟩))
    obtain ⟨hcc, hff⟩ := bcell hb
    have hsz := hb.size
    simp at hcc hff hsz
    go_wp2
    refine bodyPost_ret (v := unsealV s) ?_ rfl ⟨rfl, ?_⟩
    · rw [HV.out, HQ.out]
      simp [results, Try.results10, go_sem, hcc]
      try rfl
    · have hB0 : Below w.heap.size w w' := (((Below.refl _ _).alloc (Nat.le_refl _) _).drew).trans (hb.mono (by simp))
      exact ((hB0.setCell (Nat.le_refl _) _).setCell (Nat.le_refl _) _).setCell (Nat.le_refl _) _

theorem empty_app (t : ByteArray) : (⟨#[]⟩ : ByteArray) ++ t = t := by
  apply ByteArray.ext; simp

set_option maxHeartbeats 1000000 in
theorem implUnseal_in (s : ByteArray) (w : World) (hs : s.size ≤ 8000) (h4 : 4 ≤ s.size) :
    Calls Try.prog 11 #[.string s] w fun e w' => e = .returned (unsealV s) ∧ Below w.heap.size w w' := by
  have hx : (s.extract 0 (s.size - 4)).size ≤ 7996 := by simp [ByteArray.size_extract]; omega
  have hA : (4 : Int) ≤ (s.size : Int) := by omega
  have hB : (s.size : Int) - 4 ≤ (s.size : Int) := by omega
  have hN : ((s.size : Int) - 4).toNat = s.size - 4 := by omega
  have HV : Hid (unsealV s = if okSeal s = true then .agg #[.string (s.extract 0 (s.size - 4)), .int .i64 0, .int .i64 0] else .agg #[.string ByteArray.empty, .int .i64 0, .int .i64 5]) := rfl
  have he := empty_app (s.extract 0 (s.size - 4))
  cases hq : okSeal s
  all_goals
    have HQ : Hid (okSeal s = _) := hq
    rw [← seal_same s] at hq
    go_enter Try.func11, Try.ntmps11
    go_wp2_with (first | (go_at_call 9; refine (implSeal_in _ _ hx).mono ?_; rintro e w' ⟨rfl, hb⟩; obtain ⟨hcc, hff⟩ := bcell hb; have hsz := hb.size; simp at hcc hff hsz; have hlt : w.heap.size < w'.heap.size := by omega))
  · refine bodyPost_ret (v := unsealV s) ?_ rfl ⟨rfl, ?_⟩
    · rw [HV.out, HQ.out]
      simp [results, Try.results11, go_sem, hcc]
      try rfl
    · have hB0 : Below w.heap.size w w' := ((Below.refl _ _).alloc (Nat.le_refl _) _).trans (hb.mono (by simp))
      exact ((hB0.setCell (Nat.le_refl _) _).setCell (Nat.le_refl _) _).setCell (Nat.le_refl _) _
  · refine (Join.join_any ⟨#[]⟩ (s.extract 0 (s.size - 4)) _ (by decide) (by omega)).mono ?_
    rintro e w2 ⟨rfl, hb2⟩
    obtain ⟨hcc2, hff2⟩ := bcell hb2
    go_wp2
    refine bodyPost_ret (v := unsealV s) ?_ rfl ⟨rfl, ?_⟩
    · rw [HV.out, HQ.out]
      simp [results, Try.results11, go_sem, hcc, hcc2, hlt]
      try rfl
    · have hB0 : Below w.heap.size w w' := ((Below.refl _ _).alloc (Nat.le_refl _) _).trans (hb.mono (by simp))
      have hB1 : Below w.heap.size w w2 := hB0.trans (hb2.mono (by omega))
      exact ((hB1.setCell (Nat.le_refl _) _).setCell (Nat.le_refl _) _).setCell (Nat.le_refl _) _
end Go.Proofs.Ytednbehelcfopae.Unseal
