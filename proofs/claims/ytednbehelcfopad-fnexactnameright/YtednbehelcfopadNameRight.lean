/- What the two NameRight functions of the program answer, by contracts. -/
import Derived.Test.YtednbehelcfopadRows
import Derived.WalkKit
import Derived.Below
namespace Go.Proofs.Ytednbehelcfopad.NameRight
open Go.RowKit

def low (c : UInt8) : Bool := decide (97 ≤ (c.toNat : Int)) && decide ((c.toNat : Int) ≤ 122)
def dig (c : UInt8) : Bool := decide (48 ≤ (c.toNat : Int)) && decide ((c.toNat : Int) ≤ 57)
/-- What a byte of the number n at place k may be. -/
def okI (k : Nat) (n : Int) : Prop := (97 ≤ n ∧ n ≤ 122) ∨ (k ≠ 0 ∧ ((48 ≤ n ∧ n ≤ 57) ∨ n = 95))
def okTo (s : ByteArray) (k : Nat) : Prop := ∀ j, j < k → okI j ((s[j]?.getD 0).toNat : Int)
def nameB (s : ByteArray) : Bool := decide (1 ≤ s.size ∧ s.size ≤ 20) && (List.range s.size).all fun k => decide ((97 ≤ ((s[k]?.getD 0).toNat : Int) ∧ ((s[k]?.getD 0).toNat : Int) ≤ 122) ∨ (k ≠ 0 ∧ ((48 ≤ ((s[k]?.getD 0).toNat : Int) ∧ ((s[k]?.getD 0).toNat : Int) ≤ 57) ∨ ((s[k]?.getD 0).toNat : Int) = 95)))

theorem name_iff (s : ByteArray) : nameB s = true ↔ 1 ≤ s.size ∧ s.size ≤ 20 ∧ okTo s s.size := by
  unfold nameB okTo okI
  rw [Bool.and_eq_true, List.all_eq_true]
  simp only [List.mem_range, decide_eq_true_eq, and_assoc]

theorem at_lt (s : ByteArray) (k : Nat) (h : k < s.size) : s[k]?.getD 0 = s[k] := by simp [h]

theorem okTo_succ (s : ByteArray) (k : Nat) (hk : k < s.size) (h : okTo s k) (g : okI k (s[k].toNat : Int)) : okTo s (k + 1) := by
  intro j hj
  by_cases e : j = k
  · subst e; rw [at_lt s j hk]; exact g
  · exact h j (by omega)

theorem name_bad (s : ByteArray) (k : Nat) (hk : k < s.size) (g : ¬ okI k (s[k].toNat : Int)) : nameB s = false := by
  rw [← Bool.not_eq_true, name_iff]
  rintro ⟨_, _, h⟩
  have := h k hk
  rw [at_lt s k hk] at this
  exact g this

theorem name_good (s : ByteArray) (h1 : 1 ≤ s.size) (h2 : s.size ≤ 20) (h : okTo s s.size) : nameB s = true := by
  exact (name_iff s).2 ⟨h1, h2, h⟩

theorem name_size (s : ByteArray) (h : ¬ (1 ≤ s.size ∧ s.size ≤ 20)) : nameB s = false := by
  rw [← Bool.not_eq_true, name_iff]; rintro ⟨a, b, _⟩; exact h ⟨a, b⟩

theorem ret_bool {a b : Bool} (h : a = b) : Ending.returned (.bool a) = .returned (.bool b) := by rw [h]

theorem isLower_any (c : UInt8) (w : World) :
    Calls Try.prog 18 #[.int .u8 c.toNat] w fun e w' => e = .returned (.bool (low c)) ∧ w' = w := by
  by_cases h : 97 ≤ (c.toNat : Int)
  all_goals
    go_enter Try.func18, Try.ntmps18
    go_wp2
    go_ret
    exact ⟨by simp [low]; omega, rfl⟩

theorem isDigit_any (c : UInt8) (w : World) :
    Calls Try.prog 19 #[.int .u8 c.toNat] w fun e w' => e = .returned (.bool (dig c)) ∧ w' = w := by
  by_cases h : 48 ≤ (c.toNat : Int)
  all_goals
    go_enter Try.func19, Try.ntmps19
    go_wp2
    go_ret
    exact ⟨by simp [dig]; omega, rfl⟩

set_option maxHeartbeats 400000 in
theorem specNameRight_any (s : ByteArray) (w : World) (hs : s.size ≤ maxLen) :
    Calls Try.prog 11 #[.string s] w fun e w' => e = .returned (.bool (nameB s)) ∧ w' = w := by
  unfold maxLen at hs
  by_cases h1 : 1 ≤ (s.size : Int)
  · by_cases h2 : (s.size : Int) ≤ 20
    · go_enter Try.func11, Try.ntmps11
      go_wp2
      go_loop [3] (fun i => ∃ k : Nat, k ≤ s.size ∧ i = .int .i64 k ∧ okTo s k) (fun i => s.size - (intOf i).toNat)
      case atStart => exact ⟨0, Nat.zero_le _, rfl, fun j hj => absurd hj (Nat.not_lt_zero j)⟩
      case round =>
        obtain ⟨k, hk, rfl, hok⟩ := hrel
        have HO : Hid (okTo s k) := hok
        clear hok
        by_cases hlt : k < s.size
        · by_cases hk0 : k = 0
          · subst hk0
            go_wp2
            all_goals first
              | (go_ret; exact ⟨ret_bool (name_bad s 0 hlt (by unfold okI; simp at *; omega)).symm, rfl⟩)
              | (go_round
                 case rel => exact ⟨1, by omega, rfl, okTo_succ s 0 hlt HO.out (by unfold okI; simp at *; omega)⟩
                 case measure => simp [intOf]; omega)
          · have hkb : ((k : Int) == 0) = false := beq_eq_false_iff_ne.2 (by omega)
            go_wp2
            all_goals first
              | (go_ret; exact ⟨ret_bool (name_bad s k hlt (by unfold okI; simp at *; omega)).symm, rfl⟩)
              | (go_round
                 case rel => exact ⟨k + 1, by omega, by go_num, okTo_succ s k hlt HO.out (by unfold okI; simp at *; omega)⟩
                 case measure => simp [intOf]; omega)
        · go_wp2
          go_ret
          have e : k = s.size := by omega
          subst e
          exact ⟨ret_bool (name_good s (by omega) (by omega) HO.out).symm, rfl⟩
    · go_enter Try.func11, Try.ntmps11
      go_wp2
      go_ret
      exact ⟨ret_bool (name_size s (by omega)).symm, rfl⟩
  · go_enter Try.func11, Try.ntmps11
    go_wp2
    go_ret
    exact ⟨ret_bool (name_size s (by omega)).symm, rfl⟩

set_option maxHeartbeats 400000 in
theorem implNameRight_any (s : ByteArray) (w : World) (hs : s.size ≤ maxLen) :
    Calls Try.prog 12 #[.string s] w fun e w' => e = .returned (.bool (nameB s)) ∧ w' = w := by
  unfold maxLen at hs
  by_cases h1 : 1 ≤ (s.size : Int)
  · by_cases h2 : (s.size : Int) ≤ 20
    · have h0 : 0 < s.size := by omega
      cases hl : low s[0] with
      | false =>
        go_enter Try.func12, Try.ntmps12
        go_wp2_with (go_at_call 18; refine (isLower_any _ _).mono ?_; rintro e w' ⟨rfl, rfl⟩)
        go_ret
        exact ⟨ret_bool (name_bad s 0 h0 (by unfold okI; simp [low] at hl; omega)).symm, rfl⟩
      | true =>
        have hz : okTo s 1 := okTo_succ s 0 h0 (fun j hj => absurd hj (Nat.not_lt_zero j)) (by unfold okI; simp [low] at hl; omega)
        have HZ : Hid (okTo s 1) := hz
        clear hz
        go_enter Try.func12, Try.ntmps12
        go_wp2_with (go_at_call 18; refine (isLower_any _ _).mono ?_; rintro e w' ⟨rfl, rfl⟩)
        go_loop [3] (fun i => ∃ k : Nat, 1 ≤ k ∧ k ≤ s.size ∧ i = .int .i64 k ∧ okTo s k) (fun i => s.size - (intOf i).toNat)
        case atStart => exact ⟨1, by omega, by omega, rfl, HZ.out⟩
        case round =>
          obtain ⟨k, hk1, hk, rfl, hok⟩ := hrel
          have HO : Hid (okTo s k) := hok
          clear hok
          by_cases hlt : k < s.size
          · cases g1 : low s[k] <;> cases g2 : dig s[k] <;> cases g3 : (((s[k].toNat : Nat) : Int) != 95)
            all_goals
              go_wp2_with (first | (go_at_call 18; refine (isLower_any _ _).mono ?_; rintro e w' ⟨rfl, rfl⟩) | (go_at_call 19; refine (isDigit_any _ _).mono ?_; rintro e w' ⟨rfl, rfl⟩))
              first
              | (go_ret; exact ⟨ret_bool (name_bad s k hlt (by unfold okI; simp [low, dig] at g1 g2 g3; omega)).symm, rfl⟩)
              | (go_round
                 case rel => exact ⟨k + 1, by omega, by omega, by go_num, okTo_succ s k hlt HO.out (by unfold okI; simp [low, dig] at g1 g2 g3; omega)⟩
                 case measure => simp [intOf]; omega)
          · go_wp2
            go_ret
            have e : k = s.size := by omega
            subst e
            exact ⟨ret_bool (name_good s (by omega) (by omega) HO.out).symm, rfl⟩
    · go_enter Try.func12, Try.ntmps12
      go_wp2
      go_ret
      exact ⟨ret_bool (name_size s (by omega)).symm, rfl⟩
  · go_enter Try.func12, Try.ntmps12
    go_wp2
    go_ret
    exact ⟨ret_bool (name_size s (by omega)).symm, rfl⟩
end Go.Proofs.Ytednbehelcfopad.NameRight
