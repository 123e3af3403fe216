/- What the two Digest functions answer. -/
import Derived.Test.YtjgkekgieodhnabDoorSpecAll
import Derived.Test.YtjgkekgieodhnabDoorImplDig
namespace Go.Proofs.YtjgkekgieodhnabDoor.Sha
open Go.RowKit Go.Proofs.YtjgkekgieodhnabDoor.Mem

def digestB (s : ByteArray) : ByteArray := if s.size ≤ 8000 then digB s else ByteArray.empty

theorem implDigest_any (s : ByteArray) (w : World) (hk : KeysLaid w) :
    Calls Tryd.prog 15 #[.string s] w fun e w' => e = .returned (.string (digestB s)) ∧ Below w.heap.size w w' := by
  by_cases h : s.size ≤ 8000
  · have K : Hid (∀ W, KeysLaid W → Calls Tryd.prog 28 #[.string s] W fun e w' => e = .returned (.string (digestB s)) ∧ Below W.heap.size W w') := fun W hW => by
      unfold digestB
      rw [if_pos h]
      exact implDig_any s W (by omega) hW
    have HK : Hid (KeysLaid w) := hk
    clear hk
    generalize digestB s = D at *
    go_enter Tryd.func15, Tryd.ntmps15
    go_wp2_with (go_at_call 28; refine (K.out _ HK.out).mono ?_; rintro e w1 ⟨rfl, hb1⟩)
    go_ret
    exact ⟨rfl, hb1⟩
  · have e : digestB s = ByteArray.empty := by unfold digestB; rw [if_neg h]
    rw [e]
    clear hk
    go_enter Tryd.func15, Tryd.ntmps15
    go_wp2
    go_ret
    exact ⟨rfl, Below.refl _ _⟩
end Go.Proofs.YtjgkekgieodhnabDoor.Sha
