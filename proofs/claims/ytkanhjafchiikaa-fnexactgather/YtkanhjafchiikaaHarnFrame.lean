/- What the laws' own functions on frames answer. -/
import Derived.Test.YtkanhjafchiikaaTextsD
import Derived.Test.YtkanhjafchiikaaTextsB
import Derived.Deep.RegionHeld3
import Derived.Deep.QuietTactic
import Derived.BigQuiet
namespace Go.Proofs.Ytkanhjafchiikaa.Frm
open Go.RowKit Go.Proofs.Ytkanhjafchiikaa.Mem Go.Proofs.Ytkanhjafchiikaa.Gf Go.Proofs.Ytkanhjafchiikaa.Harn

theorem toShard1 (x : Int) (t : ByteArray) (w : World) :
    Calls Try.prog 44 #[.agg #[.int .i64 x, .string t]] w fun e w' => e = .returned (.agg #[.int .i64 x, .string t]) ∧ Below w.heap.size w w' := by
  go_enter Try.func44, Try.ntmps44
  go_wp2
  exact bodyPost_ret (v := .agg #[.int .i64 x, .string t]) (by simp [results, Try.results44, go_sem]) rfl ⟨rfl, (((Below.refl _ _).alloc (Nat.le_refl _) _).alloc (by simp) _).alloc (by simp; omega) _⟩

theorem toFrame_any (f : Fr) (w : World) :
    Calls Try.prog 21 #[f.val] w fun e w' => e = .returned f.val ∧ Below w.heap.size w w' := by
  obtain ⟨o, g, gs, n, m, s, x, t⟩ := f
  unfold Fr.val
  dsimp only
  go_enter Try.func21, Try.ntmps21
  go_wp2_with (go_at_call 44; refine (toShard1 _ _ _).mono ?_; rintro e w1 ⟨rfl, hb1⟩; obtain ⟨hcc, hff⟩ := bcell hb1; simp at hcc hff; have hz := hb1.size; simp at hz)
  exact bodyPost_ret (v := .agg #[.int .i64 o, .int .i64 g, .int .i64 gs, .int .i64 n, .int .i64 m, .int .i64 s, .int .i64 x, .string t]) (by simp [results, Try.results21, go_sem, hcc]) rfl ⟨rfl, by
    have hB : Below w.heap.size w w1 := Below.trans ((((Below.refl w.heap.size w).alloc (Nat.le_refl _) _).alloc (by simp) _).alloc (by simp; omega) _) (hb1.mono (by simp; omega))
    clear hcc hff hb1
    iterate 8 refine Below.setCell (p := ⟨w.heap.size + 1, _, none⟩) ?_ (by simp) _
    iterate 2 refine Below.setCell (p := ⟨w.heap.size + 1 + 1, _, none⟩) ?_ (by simp; omega) _
    exact hB⟩

theorem szShard1 (x : Int) (t : ByteArray) (left : Int) (w : World) (hl : 0 ≤ left) (hl2 : left ≤ 1048576) (ht : t.size ≤ maxLen) :
    Calls Try.prog 43 #[.agg #[.int .i64 x, .string t], .int .i64 left] w fun e w' => e = .returned (.int .i64 (if left < t.size then -1 else left - t.size)) ∧ Below w.heap.size w w' := by
  unfold maxLen at ht
  by_cases h : left < t.size
  · rw [if_pos h]
    have h1 : left - (t.size : Int) < 0 := by omega
    have h2 : -9223372036854775808 ≤ left - (t.size : Int) := by omega
    go_enter Try.func43, Try.ntmps43
    go_wp2
    go_ret
    exact ⟨rfl, (Below.refl _ _).alloc (Nat.le_refl _) _⟩
  · rw [if_neg h]
    have h1 : ¬ left - (t.size : Int) < 0 := by omega
    go_enter Try.func43, Try.ntmps43
    go_wp2
    go_ret
    exact ⟨rfl, (Below.refl _ _).alloc (Nat.le_refl _) _⟩
theorem szFrame_any (f : Fr) (left : Int) (w : World) (hl : 0 ≤ left) (hl2 : left ≤ 1048576) (ht : f.t.size ≤ maxLen) :
    Calls Try.prog 19 #[f.val, .int .i64 left] w fun e w' => e = .returned (.int .i64 (if left < f.t.size then -1 else left - f.t.size)) ∧ Below w.heap.size w w' := by
  obtain ⟨o, g, gs, n, m, s, x, t⟩ := f
  unfold Fr.val
  dsimp only at *
  have HS : Hid (∀ W, Calls Try.prog 43 #[.agg #[.int .i64 x, .string t], .int .i64 left] W fun e w' => e = .returned (.int .i64 (if left < t.size then -1 else left - t.size)) ∧ Below W.heap.size W w') := fun W => szShard1 x t left W hl hl2 ht
  have HZ : (if left < t.size then -1 else left - t.size) < 0 ∧ (if left < t.size then -1 else left - t.size) = -1 ∨ ¬ (if left < t.size then -1 else left - t.size) < 0 ∧ (if left < t.size then -1 else left - t.size) ≤ 1048576 := by split <;> omega
  generalize (if left < (t.size : Int) then -1 else left - (t.size : Int)) = z at *
  rcases HZ with ⟨h1, rfl⟩ | ⟨h1, h2⟩
  all_goals
    go_enter Try.func19, Try.ntmps19
    go_wp2_with (go_at_call 43; refine (HS.out _).mono ?_; rintro e w1 ⟨rfl, hb1⟩)
    go_ret
    exact ⟨rfl, bstep ((Below.refl _ _).alloc (Nat.le_refl _) _) hb1⟩
end Go.Proofs.Ytkanhjafchiikaa.Frm
