/- Numbers come back from their bytes; of bytes that end too early nothing comes. -/
import Derived.Test.YtednbehelcfopaaDoorGetNumPure
import Derived.Test.YtednbehelcfopaaDoorPutNumPure
namespace Go.Proofs.YtednbehelcfopaaDoor.NumRound
open Go.Proofs.YtednbehelcfopaaDoor.GetNum Go.Proofs.YtednbehelcfopaaDoor.PutNum

theorem at_list (s : ByteArray) (i : Nat) : s[i]?.getD 0 = s.data.toList[i]?.getD 0 := by
  by_cases h : i < s.size
  · have h' : i < s.data.toList.length := h
    rw [getElem?_pos s i h, List.getElem?_eq_getElem h']; rfl
  · have h' : s.data.toList.length ≤ i := Nat.le_of_not_lt h
    rw [getElem?_neg s i h, List.getElem?_eq_none h']

theorem unfold_fold (n : Int) : unfoldI (foldN n) = n := by
  unfold unfoldI foldN
  by_cases h : n < 0
  · rw [if_pos h]
    split <;> omega
  · rw [if_neg h]
    split <;> omega

theorem pow_step (k : Nat) : 2 ^ (7 * (k + 1)) = 128 * 2 ^ (7 * k) := by rw [Nat.mul_add, Nat.pow_add, Nat.mul_comm]

theorem split_val (v X : Nat) : v % 128 * X + v / 128 * (128 * X) = v * X := by
  have h : v % 128 + v / 128 * 128 = v := Nat.mod_add_div' v 128
  rw [← Nat.mul_assoc, ← Nat.add_mul, h]

/-- Where the bytes of v stand from place p + k on, they are read. -/
theorem rdK_put (s : ByteArray) (p : Nat) : ∀ (f k v acc : Nat), k + f = 9 → v < 128 ^ (f + 1) → (k = 0 ∨ 1 ≤ v) → (k = 9 → v ≤ 1) →
    (∀ f' k' v', k' + f' = 9 → v' * 128 ^ k' < 18446744073709551616 → k' = 9 → v' ≤ 1) →
    v * 128 ^ k < 18446744073709551616 →
    p + k + (putF f v).length ≤ s.size → (∀ i, i < (putF f v).length → s[p + k + i]?.getD 0 = (putF f v)[i]?.getD 0) →
    rdK s p (10 - k) k acc = (0, acc + v * 2 ^ (7 * k), p + k + (putF f v).length)
  | f, k, v, acc, hkf, hv, hk, h9, haux, hb, hsz, hby => by
    rw [show 10 - k = (9 - k) + 1 by omega, rdK]
    by_cases hlt : v < 128
    · have hp : putF f v = [UInt8.ofNat v] := putF_small hlt f
      rw [hp] at hsz hby ⊢
      have h0 := hby 0 (by simp)
      have hc : (s[p + k]?.getD 0).toNat = v := by
        have e : s[p + k]?.getD 0 = UInt8.ofNat v := by simpa using h0
        rw [e]; simp; omega
      simp only [List.length_cons, List.length_nil] at hsz ⊢
      rw [if_neg (by omega), hc, if_neg (by omega), if_pos hlt, if_neg (by omega)]
    · cases f with
      | zero => rw [Nat.zero_add, Nat.pow_one] at hv; omega
      | succ g =>
        have hp : putF (g + 1) v = UInt8.ofNat (v % 128 + 128) :: putF g (v / 128) := putF_great (by omega)
        rw [hp] at hsz hby ⊢
        have h0 := hby 0 (by simp)
        have hc : (s[p + k]?.getD 0).toNat = v % 128 + 128 := by
          have e : s[p + k]?.getD 0 = UInt8.ofNat (v % 128 + 128) := by simpa using h0
          rw [e]; simp; omega
        simp only [List.length_cons] at hsz ⊢
        rw [if_neg (by omega), hc, if_neg (by omega), if_neg (by omega), show v % 128 + 128 - 128 = v % 128 by omega, show 9 - k = 10 - (k + 1) by omega]
        have hdiv : v / 128 < 128 ^ (g + 1) := by
          rw [Nat.pow_succ] at hv
          exact Nat.div_lt_of_lt_mul (by rw [Nat.mul_comm]; exact hv)
        have hb2 : v / 128 * 128 ^ (k + 1) < 18446744073709551616 := by
          refine Nat.lt_of_le_of_lt ?_ hb
          rw [Nat.pow_succ, Nat.mul_comm (128 ^ k) 128, ← Nat.mul_assoc]
          exact Nat.mul_le_mul_right _ (Nat.div_mul_le_self v 128)
        have ih := rdK_put s p g (k + 1) (v / 128) (acc + v % 128 * 2 ^ (7 * k)) (by omega) hdiv (.inr (by omega)) (fun e => haux g (k + 1) (v / 128) (by omega) hb2 e) haux hb2 (by omega) (fun i hi => by
          have := hby (i + 1) (by simp; omega)
          rw [show p + k + (i + 1) = p + (k + 1) + i by omega] at this
          simpa using this)
        rw [ih, pow_step, Nat.add_assoc, split_val]
        simp only [Prod.mk.injEq, true_and]
        omega

theorem aux9 (f' k' v' : Nat) (_ : k' + f' = 9) (h : v' * 128 ^ k' < 18446744073709551616) (e : k' = 9) : v' ≤ 1 := by
  subst e
  have : 128 ^ 9 = 9223372036854775808 := by decide
  rw [this] at h
  omega

theorem rd_put (s : ByteArray) (p u : Nat) (hu : u < 18446744073709551616) (hsz : p + (putF 9 u).length ≤ s.size) (hby : ∀ i, i < (putF 9 u).length → s[p + i]?.getD 0 = (putF 9 u)[i]?.getD 0) :
    rd s p = (0, u, p + (putF 9 u).length) := by
  have := rdK_put s p 9 0 u 0 rfl (Nat.lt_of_lt_of_le hu (by decide)) (.inl rfl) (by omega) aux9 (by simpa using hu) (by simpa using hsz) (by simpa using hby)
  unfold rd
  simpa using this

/-- Where the last of the bytes is not there any more, nothing is read. -/
theorem rdK_cut (s : ByteArray) (p : Nat) : ∀ (f k v acc : Nat), k + f = 9 → v < 128 ^ (f + 1) → s.size + 1 = p + k + (putF f v).length → (∀ i, i + 1 < (putF f v).length → s[p + k + i]?.getD 0 = (putF f v)[i]?.getD 0) →
    rdK s p (10 - k) k acc = (4, 0, 0)
  | f, k, v, acc, hkf, hv, hsz, hby => by
    rw [show 10 - k = (9 - k) + 1 by omega, rdK]
    by_cases hlt : v < 128
    · have hp : putF f v = [UInt8.ofNat v] := putF_small hlt f
      rw [hp] at hsz
      simp only [List.length_cons, List.length_nil] at hsz
      rw [if_pos (by omega)]
    · cases f with
      | zero => rw [Nat.zero_add, Nat.pow_one] at hv; omega
      | succ g =>
        have hp : putF (g + 1) v = UInt8.ofNat (v % 128 + 128) :: putF g (v / 128) := putF_great (by omega)
        have hl := (length_putF g (v / 128)).1
        rw [hp] at hsz hby
        simp only [List.length_cons] at hsz hby
        have h0 := hby 0 (by omega)
        have hc : (s[p + k]?.getD 0).toNat = v % 128 + 128 := by
          have e : s[p + k]?.getD 0 = UInt8.ofNat (v % 128 + 128) := by simpa using h0
          rw [e]; simp; omega
        rw [if_neg (by omega), hc, if_neg (by omega), if_neg (by omega), show 9 - k = 10 - (k + 1) by omega]
        have hdiv : v / 128 < 128 ^ (g + 1) := by
          rw [Nat.pow_succ] at hv
          exact Nat.div_lt_of_lt_mul (by rw [Nat.mul_comm]; exact hv)
        exact rdK_cut s p g (k + 1) (v / 128) _ (by omega) hdiv (by omega) (fun i hi => by
          have := hby (i + 1) (by omega)
          rw [show p + k + (i + 1) = p + (k + 1) + i by omega] at this
          simpa using this)

theorem rd_cut (s : ByteArray) (p u : Nat) (hu : u < 18446744073709551616) (hsz : s.size + 1 = p + (putF 9 u).length) (hby : ∀ i, i + 1 < (putF 9 u).length → s[p + i]?.getD 0 = (putF 9 u)[i]?.getD 0) : rd s p = (4, 0, 0) :=
  rdK_cut s p 9 0 u 0 rfl (Nat.lt_of_lt_of_le hu (by decide)) (by simpa using hsz) (by simpa using hby)
end Go.Proofs.YtednbehelcfopaaDoor.NumRound
