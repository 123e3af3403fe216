/- Both sides read the same frame. -/
import Derived.Test.YtkanhjafchiikaaDoorSpecFRead
import Derived.Test.YtkanhjafchiikaaDoorImplFRead
import Derived.Test.YtkanhjafchiikaaDoorEqFrameOut
namespace Go.Proofs.YtkanhjafchiikaaDoor.Frm
open Go.RowKit Go.Proofs.YtkanhjafchiikaaDoor.Mem Go.Proofs.YtkanhjafchiikaaDoor.Unseal

theorem tell_is (T : ByteArray) (f : Fr) (b : Bool) : ∃ f' c, tellF T f b = Fr.told f' c := by
  unfold tellF
  split
  · exact ⟨_, _, rfl⟩
  · exact ⟨_, _, rfl⟩
theorem frame_both (T : ByteArray) (hm : T.size ≤ 1048576) : ∃ f c, (∀ w, Calls Tryd.prog 4 #[.string T] w fun e w' => e = .returned (Fr.told f c) ∧ Below w.heap.size w w') ∧ (∀ w, GetNum.Laid w → Calls Tryd.prog 5 #[.string T] w fun e w' => e = .returned (Fr.told f c) ∧ Below w.heap.size w w') := by
  by_cases h1 : 8000 < T.size
  · exact ⟨Fr.none, 2, fun w => specFRead_no T 2 w (by omega) (fun W => specUnseal_big T W h1 hm), fun w _ => implFRead_no T 2 w (by omega) (fun W => implUnseal_big T W h1 hm)⟩
  · by_cases h2 : T.size < 4
    · exact ⟨Fr.none, 4, fun w => specFRead_no T 4 w (by omega) (fun W => specUnseal_short T W h2), fun w _ => implFRead_no T 4 w (by omega) (fun W => implUnseal_short T W h2)⟩
    · have us := fun W => specUnseal_in T W (by omega) (by omega)
      have ui := fun W => implUnseal_in T W (by omega) (by omega)
      unfold unsealV at us ui
      cases hq : okSeal T
      · rw [hq] at us ui
        exact ⟨Fr.none, 5, fun w => specFRead_no T 5 w (by omega) (fun W => us W), fun w _ => implFRead_no T 5 w (by omega) (fun W => ui W)⟩
      · rw [hq] at us ui
        have hs : (T.extract 0 (T.size - 4)).size ≤ 8000 := by rw [ByteArray.size_extract]; omega
        obtain ⟨l, hl⟩ := sev_is _ hs
        have hl7 : l.length ≤ 7 := by rcases hl.end_ with h | h <;> omega
        obtain ⟨t, c, ht⟩ := txt_is (T.extract 0 (T.size - 4)) (atAt l 7) (by
          have := pos_bd hl.run hs (min 7 l.length) (Nat.min_le_right _ _)
          unfold atAt; omega)
        obtain ⟨f, c', hf⟩ := tell_is T (gotF l t) false
        refine ⟨f, c', fun w => ?_, fun w hL => ?_⟩
        · rw [← hf, tell_same T l t c (by omega) ht.none hl7]
          exact specFRead_yes T _ l t c w hl ht (fun W => us W)
        · rw [← hf]
          exact implFRead_yes T _ (gotF l t) w hL (fun W => ui W) (fun W hW => readFrame_any _ l t c W hs hW hl ht)
end Go.Proofs.YtkanhjafchiikaaDoor.Frm
