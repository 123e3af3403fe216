/- What the program's look at a tree answers. -/
import Derived.Test.YtjgkekgieodhnaaSpecTree
import Derived.Test.YtjgkekgieodhnaaImplPath
namespace Go.Proofs.Ytjgkekgieodhnaa.Tre
open Go.RowKit Go.Proofs.Ytjgkekgieodhnaa.Mem Go.Proofs.Ytjgkekgieodhnaa.Gf Go.Proofs.Ytjgkekgieodhnaa.Harn Go.Proofs.Ytjgkekgieodhnaa.Mark

set_option maxHeartbeats 1000000 in
theorem implFile_any (f : Fl) (w : World) (hd : f.d.size ≤ maxLen) : Calls Try.prog 35 #[f.val] w fun e w' => e = .returned (.bool (fileR f)) ∧ Below w.heap.size w w' := by
  have K1 : Hid (∀ W, Calls Try.prog 9 #[.string f.p] W fun e w' => e = .returned (.bool (pathR f.p)) ∧ Below W.heap.size W w') := fun W => implPath_any f.p W
  unfold fileR
  obtain ⟨p, m, d⟩ := f
  unfold Fl.val
  dsimp only at *
  unfold maxLen at hd
  have e3 : decide (d.size ≤ 80) = decide ((d.size : Int) ≤ 80) := decide_eq_decide.2 (by omega)
  rw [e3]
  clear e3
  generalize pathR p = z1 at *
  cases z1
  · go_enter Try.func35, Try.ntmps35
    go_wp2_with (go_at_call 9; refine (K1.out _).mono ?_; rintro e w1 ⟨rfl, hb1⟩; obtain ⟨hcc, hff⟩ := bcell hb1; simp at hcc hff)
    go_ret
    exact ⟨rfl, bstep ((Below.refl _ _).alloc (Nat.le_refl _) _) hb1⟩
  · by_cases h0 : 0 ≤ m
    · go_enter Try.func35, Try.ntmps35
      go_wp2_with (go_at_call 9; refine (K1.out _).mono ?_; rintro e w1 ⟨rfl, hb1⟩; obtain ⟨hcc, hff⟩ := bcell hb1; simp at hcc hff)
      all_goals go_ret
      all_goals (refine ⟨ret_b ?_, bstep ((Below.refl _ _).alloc (Nat.le_refl _) _) hb1⟩; rw [Bool.eq_iff_iff]; simp <;> omega)
    · go_enter Try.func35, Try.ntmps35
      go_wp2_with (go_at_call 9; refine (K1.out _).mono ?_; rintro e w1 ⟨rfl, hb1⟩; obtain ⟨hcc, hff⟩ := bcell hb1; simp at hcc hff)
      all_goals go_ret
      all_goals (refine ⟨ret_b ?_, bstep ((Below.refl _ _).alloc (Nat.le_refl _) _) hb1⟩; rw [Bool.eq_iff_iff]; simp <;> omega)

theorem ahead_cut {a b : ByteArray} (h : a.size < b.size) : ahead a b = ((b.extract 0 (a.size + 1)).toList == (a ++ (⟨#[47]⟩ : ByteArray)).toList) := by
  have e1 : (a ++ (⟨#[47]⟩ : ByteArray)).data.toList = a.data.toList ++ [47] := by simp
  unfold ahead
  rw [Lib.toList_data, Lib.toList_data, e1, decide_eq_true h, Bool.true_and]
  rw [Bool.eq_iff_iff]
  simp
set_option maxHeartbeats 1000000 in
theorem under_any (a b : ByteArray) (w : World) (ha : a.size ≤ 1000) : Calls Try.prog 54 #[.string b, .string a] w fun e w' => e = .returned (.bool (ahead a b)) ∧ w' = w := by
  have h1 : (⟨#[47]⟩ : ByteArray).size = 1 := rfl
  have hno : ¬ (9223372036854775807 : Nat) < a.size + (⟨#[47]⟩ : ByteArray).size := by omega
  by_cases h : a.size < b.size
  · rw [ahead_cut h]
    have p1 : (a.size : Int) + 1 ≤ (b.size : Int) := by omega
    go_enter Try.func54, Try.ntmps54
    go_wp2
    go_ret
    exact ⟨rfl, rfl⟩
  · rw [ahead_no h]
    have p1 : ¬ (a.size : Int) + 1 ≤ (b.size : Int) := by omega
    go_enter Try.func54, Try.ntmps54
    go_wp2
    go_ret
    exact ⟨rfl, rfl⟩
set_option maxHeartbeats 1000000 in
theorem clos_any (f : Fl) (x : ByteArray) (g : Nat) (w : World) (hf : f.p.size ≤ 1000) (hx : x.size ≤ 1000) (hbox : w.cell? ⟨g, 0, none⟩ = some (.string x)) :
    Calls Try.prog 53 #[f.val, .pointer (some ⟨g, 0, none⟩)] w fun e w' => e = .returned (.bool (cross f.p x)) ∧ Below w.heap.size w w' := by
  have K1 : Hid (∀ W, Calls Try.prog 54 #[.string f.p, .string x] W fun e w' => e = .returned (.bool (ahead x f.p)) ∧ w' = W) := fun W => under_any x f.p W hx
  have K2 : Hid (∀ W, Calls Try.prog 54 #[.string x, .string f.p] W fun e w' => e = .returned (.bool (ahead f.p x)) ∧ w' = W) := fun W => under_any f.p x W hf
  have hl := World.block_lt_of_cell? w _ hbox
  simp only at hl
  have hc : cross f.p x = (ahead x f.p || ahead f.p x) := by unfold cross; rw [Bool.or_comm]
  rw [hc]
  unfold Fl.val
  generalize ahead x f.p = z1 at *
  generalize ahead f.p x = z2 at *
  clear hc hf hx
  cases z1
  · go_enter Try.func53, Try.ntmps53
    go_wp2_with fail
    refine (K1.out _).mono ?_
    rintro e w1 ⟨rfl, rfl⟩
    go_wp2_with fail
    refine (K2.out _).mono ?_
    rintro e w1 ⟨rfl, rfl⟩
    go_wp2
    go_ret
    exact ⟨rfl, (Below.refl _ _).alloc (Nat.le_refl _) _⟩
  · go_enter Try.func53, Try.ntmps53
    go_wp2_with fail
    refine (K1.out _).mono ?_
    rintro e w1 ⟨rfl, rfl⟩
    go_wp2
    go_ret
    exact ⟨rfl, (Below.refl _ _).alloc (Nat.le_refl _) _⟩
end Go.Proofs.Ytjgkekgieodhnaa.Tre
