/- What the model's look at a frame answers. -/
import Derived.Test.YtkanhjafchiikaaDoorTextsC
namespace Go.Proofs.YtkanhjafchiikaaDoor.Frm
open Go.RowKit Go.Proofs.YtkanhjafchiikaaDoor.Mem Go.Proofs.YtkanhjafchiikaaDoor.Gf Go.Proofs.YtkanhjafchiikaaDoor.Harn

theorem isB_call {n l h : Int} {b : Bool} (e : isB n l h = b) (W : World) : Calls Tryd.prog 31 #[.int .i64 n, .int .i64 l, .int .i64 h] W fun e w' => e = .returned (.bool b) ∧ w' = W := by
  subst e; exact (l05Is_any n l h W).mono fun _ _ h => ⟨h.1, h.2.symm⟩
theorem fine_call {n m s : Int} {b : Bool} (e : fineB n m s = b) (W : World) : Calls Tryd.prog 32 #[.int .i64 n, .int .i64 m, .int .i64 s] W fun e w' => e = .returned (.bool b) ∧ w' = W := by
  subst e; exact (specFine_any n m s W).mono fun _ _ h => ⟨h.1, h.2.symm⟩
theorem long_call {n s : Nat} (h : 0 < n) (hn : n ≤ 100) (hs : s ≤ 1000) (W : World) : Calls Tryd.prog 33 #[.int .i64 (n : Nat), .int .i64 (s : Nat)] W fun e w' => e = .returned (.int .i64 (plen n s : Nat)) ∧ w' = W :=
  (specLong_any n s W h hn hs).mono fun _ _ h => ⟨h.1, h.2.symm⟩
theorem ret_bool {a b : Bool} (h : a = b) : Ending.returned (.bool a) = .returned (.bool b) := by rw [h]

set_option maxRecDepth 100000 in
set_option maxHeartbeats 1000000 in
theorem specFR_any (f : Fr) (w : World) : Calls Tryd.prog 19 #[f.val] w fun e w' => e = .returned (.bool f.right) ∧ Below w.heap.size w w' := by
  have hc := f.cases
  generalize f.right = z at *
  obtain ⟨o, g, gs, n, m, s, x, t⟩ := f
  unfold Fr.val
  dsimp only at *
  rcases hc with ⟨h1, rfl⟩ | ⟨h1, h2, rfl⟩ | ⟨h1, h2, h3, rfl⟩ | ⟨h1, h2, h3, h4, rfl⟩ | ⟨h1, h2, h3, h4, h5, rfl⟩ | ⟨h1, h2, h3, h4, h5, rfl⟩
  · have H1 : Hid _ := fun W => isB_call h1 W
    clear h1
    go_enter Tryd.func19, Tryd.ntmps19
    go_wp2_with fail
    go_quiet ((go_at_call 31; exact Calls.quiet_of_same (H1.out _)))
    go_wp2
    go_ret
    exact ⟨rfl, Sha.bel_drewN ((Below.refl _ _).alloc (Nat.le_refl _) _) _⟩
  · have H1 : Hid _ := fun W => isB_call h1 W
    have H2 : Hid _ := fun W => isB_call h2 W
    clear h1 h2
    go_enter Tryd.func19, Tryd.ntmps19
    go_wp2_with fail
    go_quiet ((first | (go_at_call_of 31 (Value.int .i64 o); exact Calls.quiet_of_same (H1.out _)) | (go_at_call_of 31 (Value.int .i64 gs); exact Calls.quiet_of_same (H2.out _))))
    go_wp2
    go_ret
    exact ⟨rfl, Sha.bel_drewN ((Below.refl _ _).alloc (Nat.le_refl _) _) _⟩
  all_goals
    have b2 := isB_iff.1 h2
    obtain ⟨b20, b21⟩ := b2
    have H1 : Hid _ := fun W => isB_call h1 W
    have H2 : Hid _ := fun W => isB_call h2 W
    have H3 : Hid _ := fun W => isB_call h3 W
    clear h1 h2 h3
  · go_enter Tryd.func19, Tryd.ntmps19
    go_wp2_with fail
    go_quiet ((first | (go_at_call_of 31 (Value.int .i64 o); exact Calls.quiet_of_same (H1.out _)) | (go_at_call_of 31 (Value.int .i64 gs); exact Calls.quiet_of_same (H2.out _)) | (go_at_call_of 31 (Value.int .i64 g); exact Calls.quiet_of_same (H3.out _))))
    go_wp2
    go_ret
    exact ⟨rfl, Sha.bel_drewN ((Below.refl _ _).alloc (Nat.le_refl _) _) _⟩
  · have H4 : Hid _ := fun W => fine_call h4 W
    clear h4
    go_enter Tryd.func19, Tryd.ntmps19
    go_wp2_with fail
    go_quiet ((first | (go_at_call_of 31 (Value.int .i64 o); exact Calls.quiet_of_same (H1.out _)) | (go_at_call_of 31 (Value.int .i64 gs); exact Calls.quiet_of_same (H2.out _)) | (go_at_call_of 31 (Value.int .i64 g); exact Calls.quiet_of_same (H3.out _)) | (go_at_call 32; exact Calls.quiet_of_same (H4.out _))))
    go_wp2
    go_ret
    exact ⟨rfl, Sha.bel_drewN ((Below.refl _ _).alloc (Nat.le_refl _) _) _⟩
  all_goals
    have H4 : Hid _ := fun W => fine_call h4 W
    obtain ⟨n', m', s', rfl, rfl, rfl, q1, q2, q3, q4, q5⟩ := fine_parts h4
    have H5 : Hid _ := fun W => isB_call h5 W
    have H6 : Hid _ := fun W => long_call (n := n') (s := s') (by omega) (by omega) (by omega) W
    clear h4
  · clear h5
    go_enter Tryd.func19, Tryd.ntmps19
    go_wp2_with fail
    go_quiet ((first | (go_at_call_of 31 (Value.int .i64 o); exact Calls.quiet_of_same (H1.out _)) | (go_at_call_of 31 (Value.int .i64 gs); exact Calls.quiet_of_same (H2.out _)) | (go_at_call_of 31 (Value.int .i64 g); exact Calls.quiet_of_same (H3.out _)) | (go_at_call 32; exact Calls.quiet_of_same (H4.out _)) | (go_at_call_of 31 (Value.int .i64 x); exact Calls.quiet_of_same (H5.out _))))
    go_wp2
    go_ret
    exact ⟨rfl, Sha.bel_drewN ((Below.refl _ _).alloc (Nat.le_refl _) _) _⟩
  · clear h5
    simp only [Int.toNat_natCast]
    have hq : (((t.size : Int)) == ((plen n' s' : Nat) : Int)) = decide (t.size = plen n' s') := by
      by_cases e : t.size = plen n' s'
      · rw [decide_eq_true e, beq_iff_eq]; omega
      · rw [decide_eq_false e, beq_eq_false_iff_ne]; omega
    generalize hd : decide (t.size = plen n' s') = bz at *
    clear hd
    generalize plen n' s' = L at *
    go_enter Tryd.func19, Tryd.ntmps19
    go_wp2_with fail
    go_quiet ((first | (go_at_call_of 31 (Value.int .i64 o); exact Calls.quiet_of_same (H1.out _)) | (go_at_call_of 31 (Value.int .i64 gs); exact Calls.quiet_of_same (H2.out _)) | (go_at_call_of 31 (Value.int .i64 g); exact Calls.quiet_of_same (H3.out _)) | (go_at_call 32; exact Calls.quiet_of_same (H4.out _)) | (go_at_call_of 31 (Value.int .i64 x); exact Calls.quiet_of_same (H5.out _)) | (go_at_call 33; exact Calls.quiet_of_same (H6.out _))))
    go_wp2
    go_ret
    exact ⟨rfl, Sha.bel_drewN ((Below.refl _ _).alloc (Nat.le_refl _) _) _⟩
end Go.Proofs.YtkanhjafchiikaaDoor.Frm
