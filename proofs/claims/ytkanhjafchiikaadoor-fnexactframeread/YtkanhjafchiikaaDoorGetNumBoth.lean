/- The two GetNum functions give one answer. -/
import Derived.Test.YtkanhjafchiikaaDoorSpecGetNum
import Derived.Test.YtkanhjafchiikaaDoorImplGetNum
namespace Go.Proofs.YtkanhjafchiikaaDoor.GetNum
open Go.RowKit

/-- Whatever the place: one answer of both. -/
theorem both (s : ByteArray) (a : Int) (h2 : a ≤ 9223372036854775807) :
    ∃ n p c : Int, Ans s n p c ∧
      (∀ w, Calls Tryd.prog 17 #[.string s, .int .i64 a] w fun e w' => e = .returned (.agg #[.int .i64 n, .int .i64 p, .int .i64 c]) ∧ Below w.heap.size w w') ∧
      (∀ w, Laid w → Calls Tryd.prog 24 #[.string s, .int .i64 a] w fun e w' => e = .returned (.agg #[.int .i64 n, .int .i64 p, .int .i64 c]) ∧ Below w.heap.size w w') := by
  by_cases hs : 8000 < (s.size : Int)
  · exact ⟨0, 0, 2, ⟨by omega, by omega, fun h => by omega⟩, fun w => specGetNum_big s a w hs, fun w _ => implGetNum_big s a w hs⟩
  · have hs' : (s.size : Int) ≤ 8000 := by omega
    by_cases ha : a < 0
    · refine ⟨0, 0, 1, ⟨by omega, by omega, fun h => by omega⟩, fun w => specGetNum_neg s a w hs' ha, fun w hL => ?_⟩
      exact implGetNum_code s a w 1 hs' hL (fun w => readNum_neg s a w ha)
    · obtain ⟨m, rfl⟩ := Int.eq_ofNat_of_zero_le (by omega : 0 ≤ a)
      rcases rd_cases s m with ⟨y, q, hr, hy, hq⟩ | hr | hr
      · have hb := unfold_bd hy
        refine ⟨unfoldI y, (q : Nat), 0, ⟨hb.1, hb.2, fun _ => ⟨by omega, by omega, hs'⟩⟩, fun w => ?_, fun w _ => ?_⟩
        · have := specGetNum_in s m w hs' h2
          rwa [outV_ok hr] at this
        · refine implGetNum_ok s m w y q hs' (by omega) (fun w => ?_)
          have := readNum_in s m w hs' h2
          rwa [readV_ok hr] at this
      all_goals
        have hne : (rd s m).1 ≠ 0 := by rw [hr]; decide
        refine ⟨0, 0, ((rd s m).1 : Nat), ⟨by omega, by omega, fun h => by omega⟩, fun w => ?_, fun w hL => ?_⟩
        · have := specGetNum_in s m w hs' h2
          unfold outV at this
          rwa [if_neg hne] at this
        · refine implGetNum_code s m w (rd s m).1 hs' hL (fun w => ?_)
          have := readNum_in s m w hs' h2
          rwa [readV_code hne] at this
end Go.Proofs.YtkanhjafchiikaaDoor.GetNum
