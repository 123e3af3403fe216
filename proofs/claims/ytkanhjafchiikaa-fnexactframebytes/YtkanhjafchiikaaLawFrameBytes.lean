/- The law on FrameBytes. -/
import Derived.Test.YtkanhjafchiikaaImplFB
import Derived.Test.YtkanhjafchiikaaLawFrameRight
namespace Go.Proofs.Ytkanhjafchiikaa.Frm
open Go.RowKit Go.Proofs.Ytkanhjafchiikaa.Mem Go.Proofs.Ytkanhjafchiikaa.Gf Go.Proofs.Ytkanhjafchiikaa.Harn

set_option maxRecDepth 100000 in
set_option maxHeartbeats 1000000 in
theorem frameBytes_law (f : Fr) (w : World) (ht : f.t.size ≤ maxLen) :
    Calls Try.prog 6 #[f.val] w fun e w' => e = .returned (.bool true) ∧ Below w.heap.size w w' := by
  obtain ⟨o, g, gs, n, m, s, x, t⟩ := f
  have HZ : Hid (∀ W, Calls Try.prog 19 #[.agg #[.int .i64 o, .int .i64 g, .int .i64 gs, .int .i64 n, .int .i64 m, .int .i64 s, .int .i64 x, .string t], .int .i64 1048576] W fun e w' => e = .returned (.int .i64 (if (1048576 : Int) < t.size then -1 else 1048576 - t.size)) ∧ Below W.heap.size W w') := fun W => szFrame_any ⟨o, g, gs, n, m, s, x, t⟩ 1048576 W (by omega) (by omega) ht
  have HT : Hid (∀ W, Calls Try.prog 21 #[.agg #[.int .i64 o, .int .i64 g, .int .i64 gs, .int .i64 n, .int .i64 m, .int .i64 s, .int .i64 x, .string t]] W fun e w' => e = .returned (.agg #[.int .i64 o, .int .i64 g, .int .i64 gs, .int .i64 n, .int .i64 m, .int .i64 s, .int .i64 x, .string t]) ∧ Below W.heap.size W w') := fun W => toFrame_any ⟨o, g, gs, n, m, s, x, t⟩ W
  have HS : Hid (∀ W, Calls Try.prog 23 #[.agg #[.int .i64 o, .int .i64 g, .int .i64 gs, .int .i64 n, .int .i64 m, .int .i64 s, .int .i64 x, .string t]] W fun e w' => e = .returned (.string (Fr.out ⟨o, g, gs, n, m, s, x, t⟩)) ∧ Below W.heap.size W w') := fun W => specFB_any ⟨o, g, gs, n, m, s, x, t⟩ W
  have HI : Hid (∀ W, Calls Try.prog 24 #[.agg #[.int .i64 o, .int .i64 g, .int .i64 gs, .int .i64 n, .int .i64 m, .int .i64 s, .int .i64 x, .string t]] W fun e w' => e = .returned (.string (Fr.out ⟨o, g, gs, n, m, s, x, t⟩)) ∧ Below W.heap.size W w') := fun W => implFB_any ⟨o, g, gs, n, m, s, x, t⟩ W
  generalize Fr.out ⟨o, g, gs, n, m, s, x, t⟩ = z at *
  have hz : (if (1048576 : Int) < t.size then -1 else 1048576 - t.size : Int) = -1 ∨ (¬ (if (1048576 : Int) < t.size then -1 else 1048576 - t.size : Int) < 0 ∧ (if (1048576 : Int) < t.size then -1 else 1048576 - t.size : Int) ≤ 1048576) := by split <;> omega
  generalize (if (1048576 : Int) < t.size then -1 else 1048576 - t.size : Int) = q at *
  unfold Fr.val
  dsimp only at *
  rcases hz with rfl | ⟨q1, q2⟩
  · go_enter Try.func6, Try.ntmps6
    go_wp2_with (go_at_call 19; refine (HZ.out _).mono ?_; rintro e w1 ⟨rfl, hb1⟩; obtain ⟨hcc, hff⟩ := bcell hb1; simp at hcc hff)
    go_ret
    exact ⟨rfl, bstep ((Below.refl _ _).alloc (Nat.le_refl _) _) hb1⟩
  · go_enter Try.func6, Try.ntmps6
    go_wp2_with fail
    refine (HZ.out _).mono ?_
    rintro e w1 ⟨rfl, hb1⟩
    have HA1 := Hid.in hb1
    have hcc := (bcell hb1).1
    simp at hcc
    clear hb1
    go_wp2_with fail
    refine (HT.out _).mono ?_
    rintro e w2 ⟨rfl, hb2⟩
    have HA2 := Hid.in (bstep HA1.out hb2)
    clear hcc hb2 HA1
    have hcc := (bcell HA2.out).1
    simp at hcc
    go_wp2_with fail
    refine (HS.out _).mono ?_
    rintro e w3 ⟨rfl, hb3⟩
    have HA3 := Hid.in (bstep HA2.out hb3)
    clear hcc hb3 HA2
    have hcc := (bcell HA3.out).1
    simp at hcc
    go_wp2_with fail
    refine (HT.out _).mono ?_
    rintro e w4 ⟨rfl, hb4⟩
    have HA4 := Hid.in (bstep HA3.out hb4)
    clear hcc hb4 HA3
    go_wp2_with fail
    refine (HI.out _).mono ?_
    rintro e w5 ⟨rfl, hb5⟩
    have HA5 := Hid.in (bstep HA4.out hb5)
    clear hb5 HA4
    go_wp2
    go_ret
    exact ⟨rfl, bstep ((Below.refl _ _).alloc (Nat.le_refl _) _) HA5.out⟩
end Go.Proofs.Ytkanhjafchiikaa.Frm
