/- What the model's Unseal answers, by contracts. -/
import Derived.Test.YtkanhjafchiikaaDoorTextsC
import Derived.Deep.RegionWith
namespace Go.Proofs.YtkanhjafchiikaaDoor.Unseal
open Go.RowKit Go.Proofs.YtkanhjafchiikaaDoor.Mem Go.Proofs.YtkanhjafchiikaaDoor.Four Go.Proofs.YtkanhjafchiikaaDoor.Crc Go.Proofs.YtkanhjafchiikaaDoor.Seal

theorem specUnseal_big (s : ByteArray) (w : World) (hs : 8000 < s.size) (hm : s.size ≤ 1048576) :
    Calls Tryd.prog 7 #[.string s] w fun e w' => e = .returned (.agg #[.string ByteArray.empty, .int .i64 0, .int .i64 2]) ∧ Below w.heap.size w w' := by
  go_enter Tryd.func7, Tryd.ntmps7
  go_wp2
  exact bodyPost_ret (v := .agg #[.string ByteArray.empty, .int .i64 0, .int .i64 2]) (by simp [results, Tryd.results7, go_sem]; rfl) rfl ⟨rfl, (Below.refl _ _).alloc (Nat.le_refl _) _⟩

theorem specUnseal_short (s : ByteArray) (w : World) (hs : s.size < 4) :
    Calls Tryd.prog 7 #[.string s] w fun e w' => e = .returned (.agg #[.string ByteArray.empty, .int .i64 0, .int .i64 4]) ∧ Below w.heap.size w w' := by
  go_enter Tryd.func7, Tryd.ntmps7
  go_wp2
  exact bodyPost_ret (v := .agg #[.string ByteArray.empty, .int .i64 0, .int .i64 4]) (by simp [results, Tryd.results7, go_sem]; rfl) rfl ⟨rfl, (Below.refl _ _).alloc (Nat.le_refl _) _⟩

set_option maxHeartbeats 1000000 in
theorem specUnseal_in (s : ByteArray) (w : World) (hs : s.size ≤ 8000) (h4 : 4 ≤ s.size) :
    Calls Tryd.prog 7 #[.string s] w fun e w' => e = .returned (unsealV s) ∧ Below w.heap.size w w' := by
  have hx : (s.extract 0 (s.size - 4)).size ≤ 7996 := by simp [ByteArray.size_extract]; omega
  have K1 : Hid (∀ w, Calls Tryd.prog 16 #[.int .i64 0, .string (s.extract 0 (s.size - 4))] w fun e w' => e = .returned (.int .i64 (crcOf 0 (s.extract 0 (s.size - 4)) : Nat)) ∧ w' = w) := fun w => l01Crc_in 0 _ w (by omega) (by omega)
  have hc := crcOf_lt (x := 0) (by omega) (s.extract 0 (s.size - 4))
  have hA : (4 : Int) ≤ (s.size : Int) := by omega
  have hB : (s.size : Int) - 4 ≤ (s.size : Int) := by omega
  have hW : IntKind.i64.wrap ((s.size : Int) - 4) = (s.size : Int) - 4 := IntWalk.i64_in _ ⟨by omega, by omega⟩
  have hN : ((s.size : Int) - 4).toNat = s.size - 4 := by omega
  have HV : Hid (unsealV s = if okSeal s = true then .agg #[.string (s.extract 0 (s.size - 4)), .int .i64 0, .int .i64 0] else .agg #[.string ByteArray.empty, .int .i64 0, .int .i64 5]) := rfl
  cases hq : okSeal s
  all_goals
    have HQ : Hid (okSeal s = _) := hq
    unfold okSeal at hq
    go_enter Tryd.func7, Tryd.ntmps7
    go_wp2
    go_region_with (first | (go_at_call 16; refine (K1.out _).mono ?_; rintro e w' ⟨rfl, rfl⟩) | (go_at_call 15; refine (l01Four_any _ _ hc).mono ?_; rintro e w' ⟨rfl, hb⟩))
    obtain ⟨hcc, hff⟩ := bcell hb
    have hsz := hb.size
    simp at hcc hff hsz
    go_wp2
    refine bodyPost_ret (v := unsealV s) ?_ rfl ⟨rfl, ?_⟩
    · rw [HV.out, HQ.out]
      simp [results, Tryd.results7, go_sem, hcc]
      try rfl
    · have hB0 : Below w.heap.size w w' := (((Below.refl _ _).alloc (Nat.le_refl _) _).drew).trans (hb.mono (by simp))
      exact ((hB0.setCell (Nat.le_refl _) _).setCell (Nat.le_refl _) _).setCell (Nat.le_refl _) _

end Go.Proofs.YtkanhjafchiikaaDoor.Unseal
