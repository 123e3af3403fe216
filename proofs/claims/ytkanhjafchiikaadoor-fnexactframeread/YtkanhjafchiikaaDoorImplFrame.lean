/- What the program's look at a frame answers. -/
import Derived.Test.YtkanhjafchiikaaDoorSpecFrame
import Derived.Test.YtkanhjafchiikaaDoorTextsD
namespace Go.Proofs.YtkanhjafchiikaaDoor.Frm
open Go.RowKit Go.Proofs.YtkanhjafchiikaaDoor.Mem Go.Proofs.YtkanhjafchiikaaDoor.Gf Go.Proofs.YtkanhjafchiikaaDoor.Harn

theorem isObject_any (o : Int) (w : World) : Calls Tryd.prog 42 #[.int .i64 o] w fun e w' => e = .returned (.bool (isB o 1 1000000)) ∧ w = w' := by
  by_cases h0 : 1 ≤ o
  · have h : isB o 1 1000000 = decide (o ≤ 1000000) := by simp [isB, h0]
    rw [h]
    go_enter Tryd.func42, Tryd.ntmps42
    go_wp2
    go_ret
    exact ⟨rfl, rfl⟩
  · have h : isB o 1 1000000 = false := by simp [isB, h0]
    rw [h]
    go_enter Tryd.func42, Tryd.ntmps42
    go_wp2
    go_ret
    exact ⟨rfl, rfl⟩
theorem object_call {o : Int} {b : Bool} (e : isB o 1 1000000 = b) (W : World) : Calls Tryd.prog 42 #[.int .i64 o] W fun e w' => e = .returned (.bool b) ∧ W = w' := by
  subst e; exact isObject_any o W
theorem group_call {n m s : Int} {b : Bool} (e : fineB n m s = b) (W : World) : Calls Tryd.prog 43 #[.int .i64 n, .int .i64 m, .int .i64 s] W fun e w' => e = .returned (.bool b) ∧ W = w' := by
  subst e; exact groupRight_any n m s W

set_option maxRecDepth 100000 in
set_option maxHeartbeats 1000000 in
theorem implFR_any (f : Fr) (w : World) : Calls Tryd.prog 26 #[f.val] w fun e w' => e = .returned (.bool f.right) ∧ Below w.heap.size w w' := by
  have hc := f.cases
  generalize f.right = z at *
  obtain ⟨o, g, gs, n, m, s, x, t⟩ := f
  unfold Fr.val
  dsimp only at *
  rcases hc with ⟨h1, rfl⟩ | ⟨h1, h2, rfl⟩ | ⟨h1, h2, h3, rfl⟩ | ⟨h1, h2, h3, h4, rfl⟩ | ⟨h1, h2, h3, h4, h5, rfl⟩ | ⟨h1, h2, h3, h4, h5, rfl⟩
  · have H1 : Hid _ := fun W => object_call h1 W
    clear h1
    go_enter Tryd.func26, Tryd.ntmps26
    go_wp2_with (go_at_call 42; refine (H1.out _).mono ?_; rintro e w' ⟨rfl, rfl⟩)
    go_ret
    exact ⟨rfl, (Below.refl _ _).alloc (Nat.le_refl _) _⟩
  · have H1 : Hid _ := fun W => object_call h1 W
    have h2' := isB_no.1 h2
    clear h1 h2
    by_cases k1 : gs < 1
    · go_enter Tryd.func26, Tryd.ntmps26
      go_wp2_with (go_at_call 42; refine (H1.out _).mono ?_; rintro e w' ⟨rfl, rfl⟩)
      go_ret
      exact ⟨rfl, (Below.refl _ _).alloc (Nat.le_refl _) _⟩
    · have k2 : 9 < gs := by omega
      clear h2'
      go_enter Tryd.func26, Tryd.ntmps26
      go_wp2_with (go_at_call 42; refine (H1.out _).mono ?_; rintro e w' ⟨rfl, rfl⟩)
      go_ret
      exact ⟨rfl, (Below.refl _ _).alloc (Nat.le_refl _) _⟩
  all_goals
    obtain ⟨b20, b21⟩ := isB_iff.1 h2
    have k1 : ¬ gs < 1 := by omega
    have k2 : ¬ 9 < gs := by omega
    have H1 : Hid _ := fun W => object_call h1 W
    clear h1 h2
  · have h3' := isB_no.1 h3
    clear h3
    by_cases k3 : g < 0
    · go_enter Tryd.func26, Tryd.ntmps26
      go_wp2_with (go_at_call 42; refine (H1.out _).mono ?_; rintro e w' ⟨rfl, rfl⟩)
      go_ret
      exact ⟨rfl, (Below.refl _ _).alloc (Nat.le_refl _) _⟩
    · have k4 : gs ≤ g := by omega
      clear h3'
      go_enter Tryd.func26, Tryd.ntmps26
      go_wp2_with (go_at_call 42; refine (H1.out _).mono ?_; rintro e w' ⟨rfl, rfl⟩)
      go_ret
      exact ⟨rfl, (Below.refl _ _).alloc (Nat.le_refl _) _⟩
  all_goals
    obtain ⟨b30, b31⟩ := isB_iff.1 h3
    have k3 : ¬ g < 0 := by omega
    have k4 : ¬ gs ≤ g := by omega
    clear h3
  · have H4 : Hid _ := fun W => group_call h4 W
    clear h4
    go_enter Tryd.func26, Tryd.ntmps26
    go_wp2_with (first | (go_at_call 42; refine (H1.out _).mono ?_; rintro e w' ⟨rfl, rfl⟩) | (go_at_call 43; refine (H4.out _).mono ?_; rintro e w' ⟨rfl, rfl⟩))
    go_ret
    exact ⟨rfl, (Below.refl _ _).alloc (Nat.le_refl _) _⟩
  all_goals
    have H4 : Hid _ := fun W => group_call h4 W
    obtain ⟨n', m', s', rfl, rfl, rfl, q1, q2, q3, q4, q5⟩ := fine_parts h4
    clear h4
  · have h5' : Srt.okS n' m' s' (x, t) = false := by
      have := isB_no.1 h5
      simp only [Srt.okS, Bool.and_eq_false_iff, decide_eq_false_iff_not]
      omega
    have H5 : Hid (∀ W, Calls Tryd.prog 44 #[.agg #[.int .i64 x, .string t], .int .i64 (n' : Nat), .int .i64 (m' : Nat), .int .i64 (s' : Nat)] W fun e w' => e = .returned (.bool false) ∧ Below W.heap.size W w') := fun W => by
      rw [← h5']; exact Srt.shardRight_any x t n' m' s' W (by omega) (by omega) (by omega) (by omega)
    clear h5 h5'
    go_enter Tryd.func26, Tryd.ntmps26
    go_wp2_with (first | (go_at_call 42; refine (H1.out _).mono ?_; rintro e w' ⟨rfl, rfl⟩) | (go_at_call 43; refine (H4.out _).mono ?_; rintro e w' ⟨rfl, rfl⟩) | (go_at_call 44; refine (H5.out _).mono ?_; rintro e w' ⟨rfl, hb⟩))
    go_ret
    exact ⟨rfl, bstep ((Below.refl _ _).alloc (Nat.le_refl _) _) hb⟩
  · have h5' : Srt.okS n' m' s' (x, t) = decide (t.size = plen n' s') := by
      obtain ⟨a, b⟩ := isB_iff.1 h5
      simp only [Srt.okS]
      rw [decide_eq_true a, decide_eq_true (show x < (n' : Int) + m' by omega)]
      simp
    simp only [Int.toNat_natCast]
    have H5 : Hid (∀ W, Calls Tryd.prog 44 #[.agg #[.int .i64 x, .string t], .int .i64 (n' : Nat), .int .i64 (m' : Nat), .int .i64 (s' : Nat)] W fun e w' => e = .returned (.bool (decide (t.size = plen n' s'))) ∧ Below W.heap.size W w') := fun W => by
      rw [← h5']; exact Srt.shardRight_any x t n' m' s' W (by omega) (by omega) (by omega) (by omega)
    generalize decide (t.size = plen n' s') = bz at *
    clear h5 h5'
    go_enter Tryd.func26, Tryd.ntmps26
    go_wp2_with (first | (go_at_call 42; refine (H1.out _).mono ?_; rintro e w' ⟨rfl, rfl⟩) | (go_at_call 43; refine (H4.out _).mono ?_; rintro e w' ⟨rfl, rfl⟩) | (go_at_call 44; refine (H5.out _).mono ?_; rintro e w' ⟨rfl, hb⟩))
    go_ret
    exact ⟨rfl, bstep ((Below.refl _ _).alloc (Nat.le_refl _) _) hb⟩
end Go.Proofs.YtkanhjafchiikaaDoor.Frm
