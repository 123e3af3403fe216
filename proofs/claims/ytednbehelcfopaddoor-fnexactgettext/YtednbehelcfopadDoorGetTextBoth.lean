/- The two GetText functions give one answer. -/
import Derived.Test.YtednbehelcfopadDoorGetNumBoth
import Derived.Test.YtednbehelcfopadDoorSpecGetText
import Derived.Test.YtednbehelcfopadDoorImplGetText
namespace Go.Proofs.YtednbehelcfopadDoor.GetText
open Go.RowKit Go.Proofs.YtednbehelcfopadDoor.GetNum

/-- Whatever the place: one answer of both. -/
theorem both (s : ByteArray) (a : Int) (h2 : a ≤ 9223372036854775807) :
    ∃ (t : ByteArray) (p c : Int), (∀ w, Texts 8 s a t p c w) ∧ (∀ w, Laid w → Texts 9 s a t p c w) := by
  obtain ⟨n, p, c, ans, K1, K2⟩ := GetNum.both s a h2
  by_cases hc : c = 0
  · subst hc
    obtain ⟨hp0, hp1, hs⟩ := ans.ok rfl
    obtain ⟨q, rfl⟩ := Int.eq_ofNat_of_zero_le hp0
    by_cases hn : n < 0 ∨ 8000 < n
    · exact ⟨_, _, _, fun w => spec_syntax s a n q w hn K1, fun w hL => impl_syntax s a n q w hL hn K2⟩
    · obtain ⟨m, rfl⟩ := Int.eq_ofNat_of_zero_le (by omega : 0 ≤ n)
      by_cases hp : (q : Int) + (m : Int) ≤ s.size
      · exact ⟨_, _, _, fun w => spec_ok s a m q w hs (by omega) hp K1, fun w hL => impl_ok s a m q w hL hs (by omega) hp K2⟩
      · exact ⟨_, _, _, fun w => spec_short s a m q w hs (by omega) hp1 (by omega) K1, fun w hL => impl_short s a m q w hL hs (by omega) hp1 (by omega) K2⟩
  · exact ⟨_, _, _, fun w => spec_code s a n p c w hc K1, fun w hL => impl_code s a n p c w hL hc K2⟩
end Go.Proofs.YtednbehelcfopadDoor.GetText
