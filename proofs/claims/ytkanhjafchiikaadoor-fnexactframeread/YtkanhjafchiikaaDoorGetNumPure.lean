/- How a number is read from its bytes, as a function of numbers. -/
import Derived.WalkKit
import Derived.Laws.BitsAllLaws
namespace Go.Proofs.YtkanhjafchiikaaDoor.GetNum
open Go.RowKit

/-- From round k on, u gathered so far: the code, the number ahead of unfolding, the place behind it. -/
def rdK (s : ByteArray) (p : Nat) : Nat → Nat → Nat → Nat × Nat × Nat
  | 0, _, _ => (3, 0, 0)
  | f + 1, k, u =>
    if s.size ≤ p + k then (4, 0, 0)
    else if k = 9 ∧ 1 < (s[p + k]?.getD 0).toNat then (3, 0, 0)
    else if (s[p + k]?.getD 0).toNat < 128 then
      if (s[p + k]?.getD 0).toNat = 0 ∧ 0 < k then (3, 0, 0) else (0, u + (s[p + k]?.getD 0).toNat * 2 ^ (7 * k), p + k + 1)
    else rdK s p f (k + 1) (u + ((s[p + k]?.getD 0).toNat - 128) * 2 ^ (7 * k))

def rd (s : ByteArray) (p : Nat) : Nat × Nat × Nat := rdK s p 10 0 0

/-- What holds at a round's head. -/
def Inv (s : ByteArray) (p k u : Nat) : Prop := k ≤ 9 ∧ u < 2 ^ (7 * k) ∧ rdK s p (10 - k) k u = rd s p

theorem inv_start (s : ByteArray) (p : Nat) : Inv s p 0 0 := ⟨by omega, by decide, rfl⟩

theorem inv_short {s : ByteArray} {p k u : Nat} (h : Inv s p k u) (hs : s.size ≤ p + k) : rd s p = (4, 0, 0) := by
  obtain ⟨h1, _, h3⟩ := h
  rw [← h3, show 10 - k = (9 - k) + 1 by omega, rdK, if_pos hs]

theorem inv_wide {s : ByteArray} {p k u : Nat} (h : Inv s p k u) (hs : p + k < s.size) (hk : k = 9) (hc : 1 < (s[p + k]?.getD 0).toNat) : rd s p = (3, 0, 0) := by
  obtain ⟨h1, _, h3⟩ := h
  rw [← h3, show 10 - k = (9 - k) + 1 by omega, rdK, if_neg (by omega), if_pos ⟨hk, hc⟩]

theorem inv_long {s : ByteArray} {p k u : Nat} (h : Inv s p k u) (hs : p + k < s.size) (hk : 0 < k) (hc : (s[p + k]?.getD 0).toNat = 0) : rd s p = (3, 0, 0) := by
  obtain ⟨h1, _, h3⟩ := h
  rw [← h3, show 10 - k = (9 - k) + 1 by omega, rdK, if_neg (by omega), if_neg (by omega), if_pos (by omega), if_pos ⟨hc, hk⟩]

theorem inv_done {s : ByteArray} {p k u : Nat} (h : Inv s p k u) (hs : p + k < s.size) (h9 : ¬ (k = 9 ∧ 1 < (s[p + k]?.getD 0).toNat)) (hc : (s[p + k]?.getD 0).toNat < 128) (h0 : ¬ ((s[p + k]?.getD 0).toNat = 0 ∧ 0 < k)) :
    rd s p = (0, u + (s[p + k]?.getD 0).toNat * 2 ^ (7 * k), p + k + 1) := by
  obtain ⟨h1, _, h3⟩ := h
  rw [← h3, show 10 - k = (9 - k) + 1 by omega, rdK, if_neg (by omega), if_neg h9, if_pos hc, if_neg h0]

theorem byte_lt (c : UInt8) : c.toNat < 256 := c.toNat_lt

theorem inv_step {s : ByteArray} {p k u : Nat} (h : Inv s p k u) (hs : p + k < s.size) (h9 : ¬ (k = 9 ∧ 1 < (s[p + k]?.getD 0).toNat)) (hc : 128 ≤ (s[p + k]?.getD 0).toNat) : k ≤ 8 ∧ Inv s p (k + 1) (u + ((s[p + k]?.getD 0).toNat - 128) * 2 ^ (7 * k)) := by
  obtain ⟨h1, h2, h3⟩ := h
  have hk : k ≤ 8 := by
    rcases Nat.lt_or_ge k 9 with g | g
    · omega
    · exact absurd ⟨by omega, by omega⟩ h9
  have hb := byte_lt (s[p + k]?.getD 0)
  refine ⟨hk, by omega, ?_, ?_⟩
  · generalize (s[p + k]?.getD 0).toNat = c at *
    have e : 2 ^ (7 * (k + 1)) = 128 * 2 ^ (7 * k) := by rw [Nat.mul_add, Nat.pow_add, Nat.mul_comm]
    rw [e]
    have : (c - 128) * 2 ^ (7 * k) ≤ 127 * 2 ^ (7 * k) := Nat.mul_le_mul_right _ (by omega)
    omega
  · rw [← h3, show 10 - k = (9 - k) + 1 by omega, rdK, if_neg (by omega), if_neg h9, if_neg (by omega), show 10 - (k + 1) = 9 - k by omega]

theorem pow_le {k : Nat} (h : k ≤ 8) : 2 ^ (7 * k) ≤ 72057594037927936 := by
  have : 2 ^ (7 * k) ≤ 2 ^ 56 := Nat.pow_le_pow_right (by omega) (by omega)
  simpa using this

/-- Of the bits of a byte, shifted: they fit where k is at most 8. -/
theorem shift_fits {k x : Nat} (h : k ≤ 8) (hx : x < 128) : x * 2 ^ (7 * k) < 9223372036854775808 := by
  have h1 := pow_le h
  have h2 : x * 2 ^ (7 * k) ≤ 127 * 2 ^ (7 * k) := Nat.mul_le_mul_right _ (by omega)
  omega

theorem shift_fits9 {x : Nat} (hx : x ≤ 1) : x * 2 ^ (7 * 9) < 18446744073709551616 := by
  have h2 : x * 2 ^ (7 * 9) ≤ 1 * 2 ^ (7 * 9) := Nat.mul_le_mul_right _ hx
  omega

theorem sum_fits {k u x : Nat} (h : k ≤ 9) (hu : u < 2 ^ (7 * k)) (hx : x < 128) (h9 : k = 9 → x ≤ 1) : x * 2 ^ (7 * k) < 18446744073709551616 ∧ u + x * 2 ^ (7 * k) < 18446744073709551616 := by
  rcases Nat.lt_or_ge k 9 with g | g
  · have h1 := shift_fits (k := k) (x := x) (by omega) hx
    have h2 := pow_le (k := k) (by omega)
    omega
  · obtain rfl : k = 9 := by omega
    have h1 : x * 2 ^ (7 * 9) ≤ 1 * 2 ^ (7 * 9) := Nat.mul_le_mul_right _ (h9 rfl)
    have h2 : 2 ^ (7 * 9) = 9223372036854775808 := by decide
    omega

theorem or_eq_add {k u x : Nat} (hu : u < 2 ^ (7 * k)) : u ||| x * 2 ^ (7 * k) = u + x * 2 ^ (7 * k) := by
  rw [Nat.or_comm, Nat.mul_comm, ← Nat.two_pow_add_eq_or_of_lt hu, Nat.add_comm]

def unfoldI (u : Nat) : Int := if u % 2 = 1 then -((u / 2 : Nat) : Int) - 1 else ((u / 2 : Nat) : Int)

theorem unfold_bd {u : Nat} (h : u < 18446744073709551616) : -9223372036854775808 ≤ unfoldI u ∧ unfoldI u ≤ 9223372036854775807 := by
  unfold unfoldI; split <;> omega

theorem rdK_cases (s : ByteArray) (p : Nat) : ∀ f k u, k + f = 10 → u < 2 ^ (7 * k) →
    (∃ y q, rdK s p f k u = (0, y, q) ∧ y < 18446744073709551616 ∧ q ≤ s.size) ∨ rdK s p f k u = (3, 0, 0) ∨ rdK s p f k u = (4, 0, 0)
  | 0, _, _, _, _ => .inr (.inl rfl)
  | f + 1, k, u, hk, hu => by
    rw [rdK]
    split
    · exact .inr (.inr rfl)
    · rename_i hlt
      split
      · exact .inr (.inl rfl)
      · rename_i h9
        have hb := byte_lt (s[p + k]?.getD 0)
        split
        · rename_i hc
          split
          · exact .inr (.inl rfl)
          · exact .inl ⟨_, _, rfl, (sum_fits (by omega) hu hc (fun e => by omega)).2, by omega⟩
        · rename_i hc
          refine rdK_cases s p f (k + 1) _ (by omega) ?_
          generalize (s[p + k]?.getD 0).toNat = c at *
          have e : 2 ^ (7 * (k + 1)) = 128 * 2 ^ (7 * k) := by rw [Nat.mul_add, Nat.pow_add, Nat.mul_comm]
          rw [e]
          have : (c - 128) * 2 ^ (7 * k) ≤ 127 * 2 ^ (7 * k) := Nat.mul_le_mul_right _ (by omega)
          omega

theorem rd_cases (s : ByteArray) (p : Nat) : (∃ y q, rd s p = (0, y, q) ∧ y < 18446744073709551616 ∧ q ≤ s.size) ∨ rd s p = (3, 0, 0) ∨ rd s p = (4, 0, 0) :=
  rdK_cases s p 10 0 0 rfl (by decide)
theorem at_lt (s : ByteArray) (k : Nat) (h : k < s.size) : s[k]?.getD 0 = s[k] := by simp [h]

theorem wrap_shift {k u c : Nat} (h : k ≤ 9) (hu : u < 2 ^ (7 * k)) (h9 : k = 9 → c % 128 ≤ 1) :
    IntKind.u64.wrap ((c : Int) % 128 * 2 ^ (7 * k)) = ((c % 128 * 2 ^ (7 * k) : Nat) : Int) ∧ IntKind.u64.wrap ((u : Int) + ((c % 128 * 2 ^ (7 * k) : Nat) : Int)) = ((u + c % 128 * 2 ^ (7 * k) : Nat) : Int) := by
  obtain ⟨h1, h2⟩ := sum_fits (x := c % 128) h hu (Nat.mod_lt _ (by omega)) h9
  have e : (c : Int) % 128 * 2 ^ (7 * k) = ((c % 128 * 2 ^ (7 * k) : Nat) : Int) := by simp
  rw [e]
  generalize c % 128 * 2 ^ (7 * k) = z at *
  exact ⟨IntWalk.u64_in _ ⟨by omega, by omega⟩, by rw [IntWalk.u64_in _ ⟨by omega, by omega⟩]; omega⟩

theorem unfold_odd {y : Nat} (h : y % 2 = 1) : -((y : Int) / 2) - 1 = unfoldI y := by
  unfold unfoldI; rw [if_pos h]; omega
theorem unfold_even {y : Nat} (h : ¬ y % 2 = 1) : ((y : Int) / 2) = unfoldI y := by
  unfold unfoldI; rw [if_neg h]; omega

end Go.Proofs.YtkanhjafchiikaaDoor.GetNum
