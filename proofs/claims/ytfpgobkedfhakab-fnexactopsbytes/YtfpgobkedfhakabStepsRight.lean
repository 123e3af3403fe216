/- Which steps are right: the model's answer and the program's. -/
import Derived.Test.YtfpgobkedfhakabHarnStep
import Derived.Test.YtfpgobkedfhakabTextsC
namespace Go.Proofs.Ytfpgobkedfhakab.Del
open Go.RowKit Go.Proofs.Ytfpgobkedfhakab.Mem Go.Proofs.Ytfpgobkedfhakab.Mark Go.Proofs.Ytfpgobkedfhakab.Harn Go.Proofs.Ytfpgobkedfhakab.Rws Go.Proofs.Ytfpgobkedfhakab.Gf

/-- is it a right step? -/
def stepR (x : Pc) : Bool := if x.t.toList.isEmpty then (decide (0 ≤ x.f) && decide (x.f ≤ 80)) && (decide (1 ≤ x.m) && decide (x.m ≤ 80)) else x.f == 0 && x.m == 0 && decide (x.t.size ≤ 80)
def stepsR (l : List Pc) : Bool := decide (l.length ≤ 3) && l.all stepR
theorem isB_two (x lo hi : Int) : isB x lo hi = (decide (lo ≤ x) && decide (x ≤ hi)) := by simp [isB]
set_option maxHeartbeats 1000000 in
theorem specStep_any (x : Pc) (w : World) (ht : x.t.size ≤ maxLen) : Calls Try.prog 37 #[x.val] w fun e w' => e = .returned (.bool (stepR x)) ∧ Below w.heap.size w w' := by
  obtain ⟨f, m, t⟩ := x
  unfold Pc.val stepR
  unfold maxLen at ht
  dsimp only at ht ⊢
  have K1 : Hid (∀ W, Calls Try.prog 29 #[.int .i64 f, .int .i64 0, .int .i64 80] W fun e w' => e = .returned (.bool (isB f 0 80)) ∧ W = w') := fun W => l05Is_any f 0 80 W
  have K2 : Hid (∀ W, Calls Try.prog 29 #[.int .i64 m, .int .i64 1, .int .i64 80] W fun e w' => e = .returned (.bool (isB m 1 80)) ∧ W = w') := fun W => l05Is_any m 1 80 W
  rw [← isB_two, ← isB_two]
  have e3 : decide (t.size ≤ 80) = decide ((t.size : Int) ≤ 80) := decide_eq_decide.2 (by omega)
  rw [e3]
  clear e3
  generalize isB f 0 80 = z1 at *
  generalize isB m 1 80 = z2 at *
  cases he : t.toList.isEmpty
  · cases h1 : (f == 0) <;> cases h2 : (m == 0)
    all_goals
      go_enter Try.func37, Try.ntmps37
      go_wp2
      go_ret
      exact ⟨by simp, (Below.refl _ _).alloc (Nat.le_refl _) _⟩
  · cases z1 <;> cases z2
    all_goals
      go_enter Try.func37, Try.ntmps37
      go_wp2_with (first | (go_at_call_of 29 (Value.int .i64 f); refine (K1.out _).mono ?_; rintro e w1 ⟨rfl, rfl⟩) | (go_at_call 29; refine (K2.out _).mono ?_; rintro e w1 ⟨rfl, rfl⟩))
      go_ret
      exact ⟨by simp, (Below.refl _ _).alloc (Nat.le_refl _) _⟩
theorem empty_size (t : ByteArray) : t.toList.isEmpty = true → t.size = 0 := fun h => by
  rw [Lib.toList_data] at h
  have : t.data.toList.length = t.size := rfl
  cases h3 : t.data.toList with
  | nil => rw [h3] at this; simpa using this.symm
  | cons x y => rw [h3] at h; cases h
set_option maxHeartbeats 1000000 in
theorem implStep_any (x : Pc) (w : World) (ht : x.t.size ≤ maxLen) : Calls Try.prog 65 #[x.val] w fun e w' => e = .returned (.bool (stepR x)) ∧ Below w.heap.size w w' := by
  obtain ⟨f, m, t⟩ := x
  unfold Pc.val stepR
  unfold maxLen at ht
  dsimp only at ht ⊢
  have e3 : decide (t.size ≤ 80) = decide ((t.size : Int) ≤ 80) := decide_eq_decide.2 (by omega)
  rw [e3]
  clear e3
  have he0 := empty_size t
  cases he : t.toList.isEmpty
  all_goals
    rw [he] at he0
    go_enter Try.func65, Try.ntmps65
    go_wp2
    all_goals
      go_ret
      refine ⟨?_, (Below.refl _ _).alloc (Nat.le_refl _) _⟩
      first
        | rfl
        | (simp_all; done)
        | (simp_all; omega)
        | (refine congrArg (fun z => Ending.returned (Value.bool z)) ?_; simp_all; omega)
end Go.Proofs.Ytfpgobkedfhakab.Del
