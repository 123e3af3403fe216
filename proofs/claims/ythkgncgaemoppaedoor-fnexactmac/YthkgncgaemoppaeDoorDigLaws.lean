/- What the two Digest functions answer. -/
import Derived.Test.YthkgncgaemoppaeDoorSpecAll
import Derived.Test.YthkgncgaemoppaeDoorImplDig
namespace Go.Proofs.YthkgncgaemoppaeDoor.Sha
open Go.RowKit Go.Proofs.YthkgncgaemoppaeDoor.Mem

def digestB (s : ByteArray) : ByteArray := if s.size ≤ 8000 then digB s else ByteArray.empty

theorem specDigest_any (s : ByteArray) (w : World) :
    Calls Tryd.prog 6 #[.string s] w fun e w' => e = .returned (.string (digestB s)) ∧ Below w.heap.size w w' := by
  by_cases h : s.size ≤ 8000
  · have K : Hid (∀ W, Calls Tryd.prog 12 #[.string s] W fun e w' => e = .returned (.string (digestB s)) ∧ Below W.heap.size W w') := fun W => by
      unfold digestB
      rw [if_pos h]
      exact specAll_any s W (by omega)
    generalize digestB s = D at *
    go_enter Tryd.func6, Tryd.ntmps6
    go_wp2_with (go_at_call 12; refine (K.out _).mono ?_; rintro e w1 ⟨rfl, hb1⟩)
    go_ret
    exact ⟨rfl, hb1⟩
  · have e : digestB s = ByteArray.empty := by unfold digestB; rw [if_neg h]
    rw [e]
    go_enter Tryd.func6, Tryd.ntmps6
    go_wp2
    go_ret
    exact ⟨rfl, Below.refl _ _⟩

theorem implDigest_any (s : ByteArray) (w : World) (hk : KeysLaid w) :
    Calls Tryd.prog 7 #[.string s] w fun e w' => e = .returned (.string (digestB s)) ∧ Below w.heap.size w w' := by
  by_cases h : s.size ≤ 8000
  · have K : Hid (∀ W, KeysLaid W → Calls Tryd.prog 13 #[.string s] W fun e w' => e = .returned (.string (digestB s)) ∧ Below W.heap.size W w') := fun W hW => by
      unfold digestB
      rw [if_pos h]
      exact implDig_any s W (by omega) hW
    have HK : Hid (KeysLaid w) := hk
    clear hk
    generalize digestB s = D at *
    go_enter Tryd.func7, Tryd.ntmps7
    go_wp2_with (go_at_call 13; refine (K.out _ HK.out).mono ?_; rintro e w1 ⟨rfl, hb1⟩)
    go_ret
    exact ⟨rfl, hb1⟩
  · have e : digestB s = ByteArray.empty := by unfold digestB; rw [if_neg h]
    rw [e]
    clear hk
    go_enter Tryd.func7, Tryd.ntmps7
    go_wp2
    go_ret
    exact ⟨rfl, Below.refl _ _⟩
end Go.Proofs.YthkgncgaemoppaeDoor.Sha
