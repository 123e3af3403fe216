/- What the program's turning functions of chapter 3 answer, by contracts. -/
import Derived.Test.YtjgkekgieodhnabDoorRows
import Derived.Test.YtjgkekgieodhnabDoorSpecTurn
import Derived.Deep.QuietTactic
import Derived.BigQuiet
namespace Go.Proofs.YtjgkekgieodhnabDoor.Sha
open Go.RowKit

theorem and31 {k : Nat} (h1 : 1 ≤ k) (h2 : k ≤ 31) : bits .and .u64 (18446744073709551616 - (k : Int)) 31 = 32 - (k : Int) := by
  have h := u64_and_nat (18446744073709551616 - k) 31 (by omega) (by decide)
  have e : (18446744073709551616 - k) &&& 31 = 32 - k := by
    rw [Nat.and_two_pow_sub_one_eq_mod _ 5]; omega
  rw [e] at h
  rw [show (18446744073709551616 : Int) - (k : Int) = ((18446744073709551616 - k : Nat) : Int) by omega]
  rw [show (31 : Int) = ((31 : Nat) : Int) by rfl, h]
  omega

theorem turn_bits' {x k : Nat} (hx : x < 4294967296) : bits .or .u32 ((x : Int) * 2 ^ (32 - k) % 4294967296) ((x : Int) / 2 ^ k) = (rotr k x : Int) := by
  have h := or32 (Nat.mod_lt (x * 2 ^ (32 - k)) (by omega : 0 < 4294967296)) (div_lt hx k)
  unfold rotr
  rw [Nat.or_comm, ← h]
  simp

theorem wrapNeg {k : Nat} (h1 : 1 ≤ k) (h2 : k ≤ 31) : IntKind.u64.wrap (-(k : Int)) = 18446744073709551616 - (k : Int) := by
  rw [show IntKind.u64.wrap (-(k : Int)) = (-(k : Int)) % 18446744073709551616 by rfl]
  omega

theorem implRot_any (x k : Nat) (w : World) (hx : x < 4294967296) (hk : 1 ≤ k) (hk2 : k ≤ 31) :
    Calls Tryd.prog 59 #[.int .u32 x, .int .i64 (-(k : Int))] w fun e w' => e = .returned (.int .u32 (rotr k x : Nat)) ∧ w = w' := by
  have HB : Hid (bits .or .u32 ((x : Int) * 2 ^ (32 - k) % 4294967296) ((x : Int) / 2 ^ (32 - (32 - k))) = (rotr k x : Int)) := by
    rw [show 32 - (32 - k) = k by omega]; exact turn_bits' hx
  have h31 : bits .and .u64 (IntKind.u64.wrap (-(k : Int))) 31 = ((32 - k : Nat) : Int) := by
    rw [wrapNeg hk hk2, and31 hk hk2]; omega
  have hm1 : 1 ≤ 32 - k := by omega
  have hm2 : 32 - k ≤ 31 := by omega
  generalize 32 - k = m at *
  clear hk hk2
  go_enter Tryd.func59, Tryd.ntmps59
  go_wp2
  go_ret
  exact ⟨ret_int HB.out, rfl⟩

theorem implTurn_any (x k : Nat) (w : World) (hx : x < 4294967296) (hk : 1 ≤ k) (hk2 : k ≤ 31) :
    Calls Tryd.prog 58 #[.int .u32 x, .int .i64 k] w fun e w' => e = .returned (.int .u32 (rotr k x : Nat)) ∧ w = w' := by
  go_enter Tryd.func58, Tryd.ntmps58
  go_wp2_with (go_at_call 59; refine (implRot_any _ _ _ hx hk hk2).mono ?_; rintro e w' ⟨rfl, rfl⟩)
  go_ret
  exact ⟨rfl, rfl⟩

theorem implTurn_same (x k : Nat) (w : World) (hx : x < 4294967296) (hk : 1 ≤ k) (hk2 : k ≤ 31) :
    Calls Tryd.prog 58 #[.int .u32 x, .int .i64 k] w fun e w' => e = .returned (.int .u32 (rotr k x : Nat)) ∧ w' = w :=
  (implTurn_any x k w hx hk hk2).mono fun _ _ h => ⟨h.1, h.2.symm⟩

set_option maxHeartbeats 1000000 in
theorem implThrice_any (x i j k : Nat) (w : World) (hx : x < 4294967296) (hi : 1 ≤ i) (hi2 : i ≤ 31) (hj : 1 ≤ j) (hj2 : j ≤ 31) (hk : 1 ≤ k) (hk2 : k ≤ 31) :
    Calls Tryd.prog 55 #[.int .u32 x, .int .i64 i, .int .i64 j, .int .i64 k] w fun e w' => e = .returned (.int .u32 (rotr i x ^^^ rotr j x ^^^ rotr k x : Nat)) ∧ w = w' := by
  have h1 := xor32 (rotr_lt hx i) (rotr_lt hx j)
  have h2 := xor32 (xor_lt (rotr_lt hx i) (rotr_lt hx j)) (rotr_lt hx k)
  go_enter Tryd.func55, Tryd.ntmps55
  go_wp2_with (go_at_call 58; refine (implTurn_any _ _ _ hx ?_ ?_).mono ?_; assumption; assumption; rintro e w' ⟨rfl, rfl⟩)
  go_ret
  exact ⟨rfl, rfl⟩

set_option maxHeartbeats 1000000 in
theorem implShifted_any (x i j k : Nat) (w : World) (hx : x < 4294967296) (hi : 1 ≤ i) (hi2 : i ≤ 31) (hj : 1 ≤ j) (hj2 : j ≤ 31) (hk : 1 ≤ k) (hk2 : k ≤ 31) :
    Calls Tryd.prog 57 #[.int .u32 x, .int .i64 i, .int .i64 j, .int .i64 k] w fun e w' => e = .returned (.int .u32 (rotr i x ^^^ rotr j x ^^^ x / 2 ^ k : Nat)) ∧ ∃ m, w' = w.drewN m := by
  have h1 := xor32 (rotr_lt hx i) (rotr_lt hx j)
  have HX : Hid (bits .xor .u32 ((rotr i x ^^^ rotr j x : Nat) : Int) ((x : Int) / 2 ^ k) = ((rotr i x ^^^ rotr j x ^^^ x / 2 ^ k : Nat) : Int)) := by
    have h2 := xor32 (xor_lt (rotr_lt hx i) (rotr_lt hx j)) (div_lt hx k)
    unfold Hid
    simpa using h2
  go_enter Tryd.func57, Tryd.ntmps57
  go_wp2_with fail
  go_quiet ((go_at_call 58; refine Calls.quiet_of_same (implTurn_same _ _ _ hx ?_ ?_); assumption; assumption))
  go_wp2
  go_ret
  exact ⟨ret_int HX.out, _, rfl⟩
end Go.Proofs.YtjgkekgieodhnabDoor.Sha
