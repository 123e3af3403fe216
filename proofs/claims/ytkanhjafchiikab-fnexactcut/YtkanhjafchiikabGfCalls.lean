/- What GfMul, GfInv and GfDiv of the program and of the model answer, whatever they are given. -/
import Derived.Test.YtkanhjafchiikabGfMul
namespace Go.Proofs.Ytkanhjafchiikab.Gf
open Go.RowKit

theorem el_nat {a : Int} (h : el a = true) : ∃ n : Nat, a = n ∧ n < 256 := by
  simp [el] at h; exact ⟨a.toNat, by omega, by omega⟩
theorem el_of {n : Nat} (h : n < 256) : el (n : Int) = true := by simp [el]; omega
theorem mulZ_nat {a b : Nat} (ha : a < 256) (hb : b < 256) : mulZ a b = (mul a b : Nat) := by
  simp [mulZ, el_of ha, el_of hb]
theorem mulZ_no {a b : Int} (h : ¬ (el a = true ∧ el b = true)) : mulZ a b = 0 := by
  unfold mulZ; rw [if_neg]; simpa using h

def invZ (a : Int) : Int := if el a && decide (a ≠ 0) then (inv a.toNat : Nat) else 0
theorem invZ_nat {a : Nat} (ha : a < 256) : invZ a = (inv a : Nat) := by
  by_cases h : a = 0
  · subst h; rw [inv_zero]; rfl
  · simp only [invZ, el_of ha]; rw [if_pos (by simp; omega)]; rfl
theorem invZ_no {a : Int} (h : el a = false) : invZ a = 0 := by simp [invZ, h]
theorem invZ_zero : invZ 0 = 0 := rfl
def divZ (a b : Int) : Int := mulZ a (invZ b)
theorem divZ_nat {a b : Nat} (ha : a < 256) (hb : b < 256) : divZ a b = (mul a (inv b) : Nat) := by
  unfold divZ; rw [invZ_nat hb, mulZ_nat ha (inv_lt hb)]
theorem mulZ_zero (a : Int) : mulZ a 0 = 0 := by
  unfold mulZ; split
  · simp [mul_zero]
  · rfl

set_option maxRecDepth 100000 in
theorem implMul_any (a b : Int) (w : World) :
    Calls Try.prog 43 #[.int .i64 a, .int .i64 b] w fun e w' => e = .returned (.int .i64 (mulZ a b)) ∧ w = w' := by
  by_cases ha : el a = true
  · by_cases hb : el b = true
    · obtain ⟨m, rfl, hm⟩ := el_nat ha
      obtain ⟨n, rfl, hn⟩ := el_nat hb
      rw [mulZ_nat hm hn]
      exact mulP_any m n w hm hn
    · have HZ : Hid (mulZ a b = 0) := mulZ_no (by simp [hb])
      have hb' : el b = false := by simpa using hb
      clear hb
      go_enter Try.func43, Try.ntmps43
      go_wp2_with (go_at_call 53; refine (isEl_any _ _).mono ?_; rintro e w' ⟨rfl, rfl⟩)
      go_ret
      exact ⟨ret_int HZ.out.symm, rfl⟩
  · have HZ : Hid (mulZ a b = 0) := mulZ_no (by simp [ha])
    have ha' : el a = false := by simpa using ha
    clear ha
    go_enter Try.func43, Try.ntmps43
    go_wp2_with (go_at_call 53; refine (isEl_any _ _).mono ?_; rintro e w' ⟨rfl, rfl⟩)
    go_ret
    exact ⟨ret_int HZ.out.symm, rfl⟩

/-- is it from low to high? -/
def isB (n l h : Int) : Bool := decide (l ≤ n ∧ n ≤ h)
theorem l05Is_any (n l h : Int) (w : World) : Calls Try.prog 9 #[.int .i64 n, .int .i64 l, .int .i64 h] w fun e w' => e = .returned (.bool (isB n l h)) ∧ w = w' := by
  by_cases h0 : l ≤ n
  · by_cases h1 : n ≤ h
    · have hh : isB n l h = true := by simp [isB, h0, h1]
      go_enter Try.func9, Try.ntmps9
      go_wp2
      go_ret
      simp_all
    · have hh : isB n l h = false := by simp [isB]; omega
      go_enter Try.func9, Try.ntmps9
      go_wp2
      go_ret
      simp_all
  · have hh : isB n l h = false := by simp [isB]; omega
    go_enter Try.func9, Try.ntmps9
    go_wp2
    go_ret
    simp_all
theorem invTo_s1 (k a : Nat) : (invTo (k + 1) a).2 = mul (invTo k a).2 (invTo k a).2 := rfl
theorem invTo_s0 (k a : Nat) : (invTo (k + 1) a).1 = mul (invTo k a).1 (invTo (k + 1) a).2 := rfl

set_option maxRecDepth 100000 in
theorem l05Inv_any (a : Nat) (w : World) (ha : a < 256) :
    Calls Try.prog 56 #[.int .i64 a] w fun e w' => e = .returned (.int .i64 (inv a : Nat)) ∧ w = w' := by
  have HE : Hid (inv a = (invTo 7 a).1) := rfl
  generalize inv a = z at *
  go_enter Try.func56, Try.ntmps56
  go_wp2
  go_loop [3, 4, 5] (fun n p i => ∃ (k : Nat), k ≤ 7 ∧ i = .int .i64 k ∧ n = .int .i64 ((invTo k a).1 : Nat) ∧ p = .int .i64 ((invTo k a).2 : Nat)) (fun _ _ i => 7 - (intOf i).toNat)
  case atStart => exact ⟨0, by omega, rfl, rfl, rfl⟩
  case round =>
    obtain ⟨k, hk, rfl, rfl, rfl⟩ := hrel
    by_cases hlt : k < 7
    · have HP : Hid ((invTo (k + 1) a).2 = mul (invTo k a).2 (invTo k a).2) := rfl
      have HN : Hid ((invTo (k + 1) a).1 = mul (invTo k a).1 (mul (invTo k a).2 (invTo k a).2)) := rfl
      obtain ⟨l1, l2⟩ := invTo_lt ha k
      generalize h1 : (invTo k a).1 = n at *
      generalize h2 : (invTo k a).2 = p at *
      clear h1 h2
      have l3 : mul p p < 256 := mul_lt l2
      go_wp2_with (first | (go_at_call_of 52 (Value.int .i64 ((p : Nat) : Int)); refine (l05Mul_any _ _ _ l2 l2).mono ?_; rintro e w' ⟨rfl, rfl⟩) | (go_at_call 52; refine (l05Mul_any _ _ _ l1 l3).mono ?_; rintro e w' ⟨rfl, rfl⟩))
      go_round
      case rel => exact ⟨k + 1, by omega, by go_num, val_int (by rw [HN.out]), val_int (by rw [HP.out])⟩
      case measure => simp [intOf]; omega
    · obtain rfl : k = 7 := by omega
      rw [← HE.out]
      generalize (invTo 7 a).2 = p at *
      go_wp2
      go_ret
      exact ⟨rfl, rfl⟩

set_option maxRecDepth 100000 in
theorem implInv_in (a : Nat) (w : World) (ha : a < 256) (h0 : ¬ a = 0) :
    Calls Try.prog 54 #[.int .i64 a] w fun e w' => e = .returned (.int .i64 (inv a : Nat)) ∧ w = w' := by
  have HE : Hid (inv a = (invTo 7 a).1) := rfl
  have ea := el_of ha
  have h0' : (((a : Nat) : Int) == 0) = false := by rw [beq_eq_false_iff_ne]; omega
  generalize inv a = z at *
  go_enter Try.func54, Try.ntmps54
  go_wp2_with (go_at_call 53; refine (isEl_any _ _).mono ?_; rintro e w' ⟨rfl, rfl⟩)
  go_loop [3, 4, 13] (fun n p i => ∃ (k : Nat), k ≤ 7 ∧ i = .int .i64 k ∧ n = .int .i64 ((invTo k a).1 : Nat) ∧ p = .int .i64 ((invTo k a).2 : Nat)) (fun _ _ i => 7 - (intOf i).toNat)
  case atStart => exact ⟨0, by omega, rfl, rfl, rfl⟩
  case round =>
    obtain ⟨k, hk, rfl, rfl, rfl⟩ := hrel
    by_cases hlt : k < 7
    · have HP : Hid ((invTo (k + 1) a).2 = mul (invTo k a).2 (invTo k a).2) := rfl
      have HN : Hid ((invTo (k + 1) a).1 = mul (invTo k a).1 (mul (invTo k a).2 (invTo k a).2)) := rfl
      obtain ⟨l1, l2⟩ := invTo_lt ha k
      generalize h1 : (invTo k a).1 = n at *
      generalize h2 : (invTo k a).2 = p at *
      clear h1 h2
      have l3 : mul p p < 256 := mul_lt l2
      go_wp2_with (first | (go_at_call_of 43 (Value.int .i64 ((p : Nat) : Int)); refine (mulP_any _ _ _ l2 l2).mono ?_; rintro e w' ⟨rfl, rfl⟩) | (go_at_call 43; refine (mulP_any _ _ _ l1 l3).mono ?_; rintro e w' ⟨rfl, rfl⟩))
      go_round
      case rel => exact ⟨k + 1, by omega, by go_num, val_int (by rw [HN.out]), val_int (by rw [HP.out])⟩
      case measure => simp [intOf]; omega
    · obtain rfl : k = 7 := by omega
      rw [← HE.out]
      generalize (invTo 7 a).2 = p at *
      go_wp2
      go_ret
      exact ⟨rfl, rfl⟩

set_option maxRecDepth 100000 in
theorem implInv_any (a : Int) (w : World) :
    Calls Try.prog 54 #[.int .i64 a] w fun e w' => e = .returned (.int .i64 (invZ a)) ∧ w = w' := by
  by_cases ha : el a = true
  · obtain ⟨m, rfl, hm⟩ := el_nat ha
    by_cases h0 : m = 0
    · subst h0
      have ea : el 0 = true := rfl
      go_enter Try.func54, Try.ntmps54
      go_wp2_with (go_at_call 53; refine (isEl_any _ _).mono ?_; rintro e w' ⟨rfl, rfl⟩)
      go_ret
      exact ⟨rfl, rfl⟩
    · rw [invZ_nat hm]
      exact implInv_in m w hm h0
  · have ha' : el a = false := by simpa using ha
    have HZ : Hid (invZ a = 0) := invZ_no ha'
    clear ha
    go_enter Try.func54, Try.ntmps54
    go_wp2_with (go_at_call 53; refine (isEl_any _ _).mono ?_; rintro e w' ⟨rfl, rfl⟩)
    go_ret
    exact ⟨ret_int HZ.out.symm, rfl⟩

theorem is1_yes {m : Nat} (hm : m < 256) (h0 : ¬ m = 0) : isB (m : Int) 1 255 = true := by simp [isB]; omega
theorem is1_no {a : Int} (h : el a = false) : isB a 1 255 = false := by simp [isB, el] at *; omega

theorem implDiv_any (a b : Int) (w : World) :
    Calls Try.prog 45 #[.int .i64 a, .int .i64 b] w fun e w' => e = .returned (.int .i64 (divZ a b)) ∧ w = w' := by
  have HE : Hid (divZ a b = mulZ a (invZ b)) := rfl
  go_enter Try.func45, Try.ntmps45
  go_wp2_with (first | (go_at_call 54; refine (implInv_any _ _).mono ?_; rintro e w' ⟨rfl, rfl⟩) | (go_at_call 43; refine (implMul_any _ _ _).mono ?_; rintro e w' ⟨rfl, rfl⟩))
  go_ret
  exact ⟨rfl, rfl⟩

end Go.Proofs.Ytkanhjafchiikab.Gf
