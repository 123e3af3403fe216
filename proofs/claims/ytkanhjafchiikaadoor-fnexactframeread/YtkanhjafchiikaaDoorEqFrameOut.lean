/- Two frames that are the same are told the same. -/
import Derived.Test.YtkanhjafchiikaaDoorTextsD
import Derived.Test.YtkanhjafchiikaaDoorTextsB
import Derived.WalkKit
import Derived.Below
namespace Go.Proofs.YtkanhjafchiikaaDoor.Frm
open Go.RowKit Go.Proofs.YtkanhjafchiikaaDoor.Mem Go.Proofs.YtkanhjafchiikaaDoor.Harn

set_option maxHeartbeats 400000 in
theorem eqShardF (x : Int) (t : ByteArray) (w : World) :
    Calls Tryd.prog 30 #[.agg #[.int .i64 x, .string t], .agg #[.int .i64 x, .string t]] w fun e w' => e = .returned (.bool true) ∧ Below w.heap.size w w' := by
  go_enter Tryd.func30, Tryd.ntmps30
  go_wp2
  go_ret
  exact ⟨rfl, ((Below.refl _ _).alloc (Nat.le_refl _) _).alloc (by simp) _⟩
set_option maxHeartbeats 400000 in
theorem eqFrameF (f : Fr) (w : World) :
    Calls Tryd.prog 14 #[f.val, f.val] w fun e w' => e = .returned (.bool true) ∧ Below w.heap.size w w' := by
  obtain ⟨o, g, gs, n, m, s, x, t⟩ := f
  unfold Fr.val
  dsimp only
  go_enter Tryd.func14, Tryd.ntmps14
  go_wp2_with (go_at_call 30; refine (eqShardF _ _ _).mono ?_; rintro e w1 ⟨rfl, hb1⟩)
  go_ret
  exact ⟨rfl, bstep (((Below.refl _ _).alloc (Nat.le_refl _) _).alloc (by simp) _) hb1⟩
set_option maxHeartbeats 400000 in
theorem eqFrameOutF (f : Fr) (c : Int) (w : World) :
    Calls Tryd.prog 6 #[f.told c, f.told c] w fun e w' => e = .returned (.bool true) ∧ Below w.heap.size w w' := by
  have HF : Hid (∀ W, Calls Tryd.prog 14 #[f.val, f.val] W fun e w' => e = .returned (.bool true) ∧ Below W.heap.size W w') := fun W => eqFrameF f W
  obtain ⟨o, g, gs, n, m, s, x, t⟩ := f
  unfold Fr.told
  unfold Fr.val at HF
  dsimp only at *
  go_enter Tryd.func6, Tryd.ntmps6
  go_wp2_with (go_at_call 14; refine (HF.out _).mono ?_; rintro e w1 ⟨rfl, hb1⟩; obtain ⟨hcc, hff⟩ := bcell hb1; simp at hcc hff)
  go_ret
  exact ⟨rfl, bstep (((Below.refl _ _).alloc (Nat.le_refl _) _).alloc (by simp) _) hb1⟩
end Go.Proofs.YtkanhjafchiikaaDoor.Frm
