/- What the program's Unseal answers, by contracts. -/
import Derived.Test.YtkanhjafchiikaaDoorTextsC
namespace Go.Proofs.YtkanhjafchiikaaDoor.Unseal
open Go.RowKit Go.Proofs.YtkanhjafchiikaaDoor.Mem Go.Proofs.YtkanhjafchiikaaDoor.Four Go.Proofs.YtkanhjafchiikaaDoor.Crc Go.Proofs.YtkanhjafchiikaaDoor.Seal

theorem implUnseal_big (s : ByteArray) (w : World) (hs : 8000 < s.size) (hm : s.size ≤ 1048576) :
    Calls Tryd.prog 11 #[.string s] w fun e w' => e = .returned (.agg #[.string ByteArray.empty, .int .i64 0, .int .i64 2]) ∧ Below w.heap.size w w' := by
  go_enter Tryd.func11, Tryd.ntmps11
  go_wp2
  exact bodyPost_ret (v := .agg #[.string ByteArray.empty, .int .i64 0, .int .i64 2]) (by simp [results, Tryd.results11, go_sem]; rfl) rfl ⟨rfl, (Below.refl _ _).alloc (Nat.le_refl _) _⟩

theorem implUnseal_short (s : ByteArray) (w : World) (hs : s.size < 4) :
    Calls Tryd.prog 11 #[.string s] w fun e w' => e = .returned (.agg #[.string ByteArray.empty, .int .i64 0, .int .i64 4]) ∧ Below w.heap.size w w' := by
  go_enter Tryd.func11, Tryd.ntmps11
  go_wp2
  exact bodyPost_ret (v := .agg #[.string ByteArray.empty, .int .i64 0, .int .i64 4]) (by simp [results, Tryd.results11, go_sem]; rfl) rfl ⟨rfl, (Below.refl _ _).alloc (Nat.le_refl _) _⟩

set_option maxHeartbeats 1000000 in
theorem implUnseal_in (s : ByteArray) (w : World) (hs : s.size ≤ 8000) (h4 : 4 ≤ s.size) :
    Calls Tryd.prog 11 #[.string s] w fun e w' => e = .returned (unsealV s) ∧ Below w.heap.size w w' := by
  have hx : (s.extract 0 (s.size - 4)).size ≤ 7996 := by simp [ByteArray.size_extract]; omega
  have hA : (4 : Int) ≤ (s.size : Int) := by omega
  have hB : (s.size : Int) - 4 ≤ (s.size : Int) := by omega
  have hN : ((s.size : Int) - 4).toNat = s.size - 4 := by omega
  have HV : Hid (unsealV s = if okSeal s = true then .agg #[.string (s.extract 0 (s.size - 4)), .int .i64 0, .int .i64 0] else .agg #[.string ByteArray.empty, .int .i64 0, .int .i64 5]) := rfl
  have he := empty_app (s.extract 0 (s.size - 4))
  cases hq : okSeal s
  all_goals
    have HQ : Hid (okSeal s = _) := hq
    rw [← seal_same s] at hq
    go_enter Tryd.func11, Tryd.ntmps11
    go_wp2_with (first | (go_at_call 21; refine (implSeal_in _ _ hx).mono ?_; rintro e w' ⟨rfl, hb⟩; obtain ⟨hcc, hff⟩ := bcell hb; have hsz := hb.size; simp at hcc hff hsz; have hlt : w.heap.size < w'.heap.size := by omega))
  · refine bodyPost_ret (v := unsealV s) ?_ rfl ⟨rfl, ?_⟩
    · rw [HV.out, HQ.out]
      simp [results, Tryd.results11, go_sem, hcc]
      try rfl
    · have hB0 : Below w.heap.size w w' := ((Below.refl _ _).alloc (Nat.le_refl _) _).trans (hb.mono (by simp))
      exact ((hB0.setCell (Nat.le_refl _) _).setCell (Nat.le_refl _) _).setCell (Nat.le_refl _) _
  · refine (Join.join_any ⟨#[]⟩ (s.extract 0 (s.size - 4)) _ (by decide) (by omega)).mono ?_
    rintro e w2 ⟨rfl, hb2⟩
    obtain ⟨hcc2, hff2⟩ := bcell hb2
    go_wp2
    refine bodyPost_ret (v := unsealV s) ?_ rfl ⟨rfl, ?_⟩
    · rw [HV.out, HQ.out]
      simp [results, Tryd.results11, go_sem, hcc, hcc2, hlt]
      try rfl
    · have hB0 : Below w.heap.size w w' := ((Below.refl _ _).alloc (Nat.le_refl _) _).trans (hb.mono (by simp))
      have hB1 : Below w.heap.size w w2 := hB0.trans (hb2.mono (by omega))
      exact ((hB1.setCell (Nat.le_refl _) _).setCell (Nat.le_refl _) _).setCell (Nat.le_refl _) _
end Go.Proofs.YtkanhjafchiikaaDoor.Unseal
