/- The field of 256 elements of chapter 6 as functions of numbers: two ways to multiply, that both are one, and that it is a field. -/
import Derived.WalkKit
import Derived.Laws.BitsAllLaws
namespace Go.Proofs.Ytfpgobkedfhakaa.Gf
open Go.RowKit

theorem xor8 {a b : Nat} (ha : a < 256) (hb : b < 256) : a ^^^ b < 256 := Nat.xor_lt_two_pow (n := 8) ha hb

/-- one place up -/
def xt (a : Nat) : Nat := (2 * a) ^^^ (if a.testBit 7 then 285 else 0)

/-- the model's loop: what is left of b, k rounds -/
def mulTo : Nat → Nat → Nat → Nat
  | 0, _, _ => 0
  | k + 1, a, b => (if b % 2 = 1 then a else 0) ^^^ mulTo k (xt a) (b / 2)
def mul (a b : Nat) : Nat := mulTo 8 a b

/-- the program's loop: the product without carrying -/
def proTo : Nat → Nat → Nat → Nat
  | 0, _, _ => 0
  | k + 1, a, b => proTo k a b ^^^ (if b.testBit k then a <<< k else 0)
def redAt (k p : Nat) : Nat := p ^^^ (if p.testBit (8 + k) then 285 <<< k else 0)
/-- from place k - 1 down to 0 -/
def redTo : Nat → Nat → Nat
  | 0, p => p
  | k + 1, p => redTo k (redAt k p)
def mulP (a b : Nat) : Nat := redTo 7 (proTo 8 a b)

/-- a function that goes over sums -/
def Lin (f : Nat → Nat) : Prop := ∀ a b, f (a ^^^ b) = f a ^^^ f b

theorem xor4 (a b c d : Nat) : (a ^^^ b) ^^^ (c ^^^ d) = (a ^^^ c) ^^^ (b ^^^ d) := by
  rw [Nat.xor_assoc, Nat.xor_assoc, ← Nat.xor_assoc b c d, Nat.xor_comm b c, Nat.xor_assoc c b d]

theorem lin_if (p : Nat → Bool) (hp : ∀ a b, p (a ^^^ b) = (p a ^^ p b)) (x : Nat) : Lin (fun a => if p a then x else 0) := by
  intro a b
  simp only [hp]
  cases p a <;> cases p b <;> simp

theorem lin_xor {f g : Nat → Nat} (hf : Lin f) (hg : Lin g) : Lin (fun a => f a ^^^ g a) := by
  intro a b
  simp only [hf a b, hg a b]
  exact xor4 _ _ _ _

theorem lin_comp {f g : Nat → Nat} (hf : Lin f) (hg : Lin g) : Lin (fun a => f (g a)) := by
  intro a b; show f (g (a ^^^ b)) = _; rw [hg, hf]

theorem lin_id : Lin (fun a => a) := fun _ _ => rfl
theorem lin_zero : Lin (fun _ => 0) := fun _ _ => by simp
theorem lin_of0 {f : Nat → Nat} (hf : Lin f) : f 0 = 0 := by
  have := hf 0 0; simp at this; exact this

theorem lin_shl (k : Nat) : Lin (fun a => a <<< k) := fun _ _ => Nat.shiftLeft_xor_distrib
theorem lin_shr (k : Nat) : Lin (fun a => a >>> k) := fun _ _ => Nat.shiftRight_xor_distrib
theorem lin_two : Lin (fun a => 2 * a) := by
  have h : (fun a : Nat => 2 * a) = fun a => a <<< 1 := by funext a; rw [Nat.shiftLeft_eq]; omega
  rw [h]; exact lin_shl 1
theorem lin_half : Lin (fun a => a / 2) := by
  have h : (fun a : Nat => a / 2) = fun a => a >>> 1 := by funext a; rw [Nat.shiftRight_eq_div_pow]
  rw [h]; exact lin_shr 1
theorem lin_test (k x : Nat) : Lin (fun a => if a.testBit k then x else 0) :=
  lin_if (fun a => a.testBit k) (fun a b => by simp [Nat.testBit_xor]) x
theorem mod2 (a : Nat) : (a % 2 = 1) = (a.testBit 0 = true) := by simp [Nat.testBit_zero]
theorem lin_odd (x : Nat) : Lin (fun a => if a % 2 = 1 then x else 0) := by
  have h : (fun a : Nat => if a % 2 = 1 then x else 0) = fun a => if a.testBit 0 then x else 0 := by funext a; simp
  rw [h]; exact lin_test 0 x
theorem lin_cond (c : Prop) [Decidable c] {f : Nat → Nat} (hf : Lin f) : Lin (fun a => if c then f a else 0) := by
  intro a b; by_cases h : c <;> simp [h, hf a b]

theorem lin_xt : Lin xt := lin_xor lin_two (lin_test 7 285)

theorem lin_mulTo_left : ∀ k b, Lin (fun a => mulTo k a b)
  | 0, _ => lin_zero
  | k + 1, b => by
    show Lin (fun a => (if b % 2 = 1 then a else 0) ^^^ mulTo k (xt a) (b / 2))
    exact lin_xor (lin_cond _ lin_id) (lin_comp (f := fun a => mulTo k a (b / 2)) (lin_mulTo_left k (b / 2)) lin_xt)

theorem lin_mulTo_right : ∀ k a, Lin (fun b => mulTo k a b)
  | 0, _ => lin_zero
  | k + 1, a => by
    show Lin (fun b => (if b % 2 = 1 then a else 0) ^^^ mulTo k (xt a) (b / 2))
    exact lin_xor (lin_odd a) (lin_comp (f := fun b => mulTo k (xt a) b) (lin_mulTo_right k (xt a)) lin_half)

theorem lin_left (b : Nat) : Lin (fun a => mul a b) := lin_mulTo_left 8 b
theorem lin_right (a : Nat) : Lin (fun b => mul a b) := lin_mulTo_right 8 a

theorem lin_proTo_left : ∀ k b, Lin (fun a => proTo k a b)
  | 0, _ => lin_zero
  | k + 1, b => by
    show Lin (fun a => proTo k a b ^^^ (if b.testBit k then a <<< k else 0))
    exact lin_xor (lin_proTo_left k b) (lin_cond _ (lin_shl k))
theorem lin_proTo_right : ∀ k a, Lin (fun b => proTo k a b)
  | 0, _ => lin_zero
  | k + 1, a => by
    show Lin (fun b => proTo k a b ^^^ (if b.testBit k then a <<< k else 0))
    exact lin_xor (lin_proTo_right k a) (lin_test k _)
theorem lin_redAt (k : Nat) : Lin (redAt k) := lin_xor lin_id (lin_test (8 + k) _)
theorem lin_redTo : ∀ k, Lin (redTo k)
  | 0 => lin_id
  | k + 1 => lin_comp (f := redTo k) (g := redAt k) (lin_redTo k) (lin_redAt k)
theorem lin_mulP_left (b : Nat) : Lin (fun a => mulP a b) := lin_comp (g := fun a => proTo 8 a b) (lin_redTo 7) (lin_proTo_left 8 b)
theorem lin_mulP_right (a : Nat) : Lin (fun b => mulP a b) := lin_comp (g := fun b => proTo 8 a b) (lin_redTo 7) (lin_proTo_right 8 a)

theorem split_top (k a : Nat) (h : 2 ^ k ≤ a) (h2 : a < 2 ^ (k + 1)) : a = 2 ^ k ^^^ (a - 2 ^ k) := by
  have hb : a - 2 ^ k < 2 ^ k := by rw [Nat.pow_succ] at h2; omega
  apply Nat.eq_of_testBit_eq
  intro i
  have ha : a = 2 ^ k + (a - 2 ^ k) := by omega
  rw [Nat.testBit_xor, Nat.testBit_two_pow]
  by_cases e : k = i
  · subst e
    rw [Nat.testBit_lt_two_pow hb]
    conv => lhs; rw [ha]
    rw [Nat.testBit_two_pow_add_eq, Nat.testBit_lt_two_pow hb]
    simp
  · by_cases l : i < k
    · conv => lhs; rw [ha]
      rw [Nat.testBit_two_pow_add_gt l]
      simp [e]
    · rw [Nat.testBit_lt_two_pow (Nat.lt_of_lt_of_le h2 (Nat.pow_le_pow_right (by omega) (by omega))), Nat.testBit_lt_two_pow (Nat.lt_of_lt_of_le hb (Nat.pow_le_pow_right (by omega) (by omega)))]
      simp [e]

theorem lin_ext_at {f g : Nat → Nat} (hf : Lin f) (hg : Lin g) : ∀ k, (∀ i, i < k → f (2 ^ i) = g (2 ^ i)) → ∀ a, a < 2 ^ k → f a = g a
  | 0, _, a, ha => by
    obtain rfl : a = 0 := by simpa using ha
    rw [lin_of0 hf, lin_of0 hg]
  | k + 1, h, a, ha => by
    by_cases l : a < 2 ^ k
    · exact lin_ext_at hf hg k (fun i hi => h i (by omega)) a l
    · have e := split_top k a (by omega) ha
      have hb : a - 2 ^ k < 2 ^ k := by rw [Nat.pow_succ] at ha; omega
      rw [e, hf, hg, h k (by omega), lin_ext_at hf hg k (fun i hi => h i (by omega)) _ hb]

theorem lin_ext {f g : Nat → Nat} (hf : Lin f) (hg : Lin g) (h : ∀ i, i < 8 → f (2 ^ i) = g (2 ^ i)) (a : Nat) (ha : a < 256) : f a = g a :=
  lin_ext_at hf hg 8 h a ha

theorem xt_lt {a : Nat} (h : a < 256) : xt a < 256 := by
  have : ∀ a, a < 256 → xt a < 256 := by decide +kernel
  exact this a h

theorem mulTo_lt : ∀ k a b, a < 256 → mulTo k a b < 256
  | 0, _, _, _ => by simp [mulTo]
  | k + 1, a, b, h => by
    unfold mulTo
    refine xor8 ?_ (mulTo_lt k _ _ (xt_lt h))
    split <;> omega

theorem mul_lt {a b : Nat} (h : a < 256) : mul a b < 256 := mulTo_lt 8 a b h

theorem mulP_eq {a b : Nat} (ha : a < 256) (hb : b < 256) : mulP a b = mul a b := by
  refine lin_ext (lin_mulP_right a) (lin_right a) (fun j hj => ?_) b hb
  refine lin_ext (lin_mulP_left (2 ^ j)) (lin_left (2 ^ j)) (fun i hi => ?_) a ha
  have : ∀ j, j < 8 → ∀ i, i < 8 → mulP (2 ^ i) (2 ^ j) = mul (2 ^ i) (2 ^ j) := by decide +kernel
  exact this j hj i hi

theorem mul_comm {a b : Nat} (ha : a < 256) (hb : b < 256) : mul a b = mul b a := by
  refine lin_ext (lin_right a) (lin_left a) (fun j hj => ?_) b hb
  refine lin_ext (lin_left (2 ^ j)) (lin_right (2 ^ j)) (fun i hi => ?_) a ha
  have : ∀ j, j < 8 → ∀ i, i < 8 → mul (2 ^ i) (2 ^ j) = mul (2 ^ j) (2 ^ i) := by decide +kernel
  exact this j hj i hi

theorem mul_assoc {a b c : Nat} (ha : a < 256) (hb : b < 256) (hc : c < 256) : mul (mul a b) c = mul a (mul b c) := by
  refine lin_ext (f := fun c => mul (mul a b) c) (g := fun c => mul a (mul b c)) (lin_right _) (lin_comp (f := fun x => mul a x) (lin_right a) (lin_right b)) (fun k hk => ?_) c hc
  refine lin_ext (f := fun b => mul (mul a b) (2 ^ k)) (g := fun b => mul a (mul b (2 ^ k))) (lin_comp (f := fun x => mul x (2 ^ k)) (lin_left _) (lin_right a)) (lin_comp (f := fun x => mul a x) (lin_right a) (lin_left _)) (fun j hj => ?_) b hb
  refine lin_ext (f := fun a => mul (mul a (2 ^ j)) (2 ^ k)) (g := fun a => mul a (mul (2 ^ j) (2 ^ k))) (lin_comp (f := fun x => mul x (2 ^ k)) (lin_left _) (lin_left _)) (lin_left _) (fun i hi => ?_) a ha
  have : ∀ k, k < 8 → ∀ j, j < 8 → ∀ i, i < 8 → mul (mul (2 ^ i) (2 ^ j)) (2 ^ k) = mul (2 ^ i) (mul (2 ^ j) (2 ^ k)) := by decide +kernel
  exact this k hk j hj i hi

theorem mul_zero (a : Nat) : mul a 0 = 0 := lin_of0 (lin_right a)
theorem zero_mul (a : Nat) : mul 0 a = 0 := lin_of0 (lin_left a)
theorem mul_xor (a b c : Nat) : mul a (b ^^^ c) = mul a b ^^^ mul a c := lin_right a b c
theorem xor_mul (a b c : Nat) : mul (a ^^^ b) c = mul a c ^^^ mul b c := lin_left c a b
theorem mul_one {a : Nat} (ha : a < 256) : mul a 1 = a := by
  refine lin_ext (f := fun a => mul a 1) (g := fun a => a) (lin_left 1) lin_id (fun i hi => ?_) a ha
  have : ∀ i, i < 8 → mul (2 ^ i) 1 = 2 ^ i := by decide +kernel
  exact this i hi
theorem one_mul {a : Nat} (ha : a < 256) : mul 1 a = a := by rw [mul_comm (by omega) ha, mul_one ha]

/-- both inverses: k rounds of squares -/
def invTo : Nat → Nat → Nat × Nat
  | 0, a => (1, a)
  | k + 1, a => (mul (invTo k a).1 (mul (invTo k a).2 (invTo k a).2), mul (invTo k a).2 (invTo k a).2)
def inv (a : Nat) : Nat := (invTo 7 a).1

theorem invTo_lt {a : Nat} (h : a < 256) : ∀ k, (invTo k a).1 < 256 ∧ (invTo k a).2 < 256
  | 0 => ⟨by simp [invTo], h⟩
  | k + 1 => ⟨mul_lt (invTo_lt h k).1, mul_lt (invTo_lt h k).2⟩
theorem inv_lt {a : Nat} (h : a < 256) : inv a < 256 := (invTo_lt h 7).1
/-- the same, reckoned fast -/
def invF : Nat → Nat → Nat → Nat
  | 0, n, _ => n
  | k + 1, n, p => invF k (mul n (mul p p)) (mul p p)
theorem invF_eq (a : Nat) : ∀ k j, invF k (invTo j a).1 (invTo j a).2 = (invTo (j + k) a).1
  | 0, j => rfl
  | k + 1, j => by
    have := invF_eq a k (j + 1)
    rw [show j + (k + 1) = j + 1 + k by omega, ← this]; rfl
theorem inv_eqF (a : Nat) : inv a = invF 7 1 a := by
  have := invF_eq a 7 0
  simp only [Nat.zero_add] at this
  exact this.symm
theorem mul_inv {a : Nat} (h : a < 256) (h0 : a ≠ 0) : mul a (inv a) = 1 := by
  rw [inv_eqF]
  have : ∀ a, a < 256 → a = 0 ∨ mul a (invF 7 1 a) = 1 := by decide +kernel
  rcases this a h with e | e
  · exact absurd e h0
  · exact e
theorem inv_zero : inv 0 = 0 := by decide +kernel
theorem inv_mul {a : Nat} (h : a < 256) (h0 : a ≠ 0) : mul (inv a) a = 1 := by rw [mul_comm (inv_lt h) h, mul_inv h h0]
theorem mul_eq_zero {a b : Nat} (ha : a < 256) (hb : b < 256) (h : mul a b = 0) : a = 0 ∨ b = 0 := by
  by_cases e : a = 0
  · exact Or.inl e
  · refine Or.inr ?_
    have h1 : mul (inv a) (mul a b) = b := by rw [← mul_assoc (inv_lt ha) ha hb, inv_mul ha e, one_mul hb]
    rw [← h1, h, mul_zero]
end Go.Proofs.Ytfpgobkedfhakaa.Gf
