/- What the multiplying functions of the program and of the model answer, by contracts. -/
import Derived.Test.YtkanhjafchiikaaRows
import Derived.Test.YtkanhjafchiikaaGfPure
import Derived.WalkKit
import Derived.Below
import Derived.Laws.ShiftsVarLaws
import Derived.WalkSpells
import Derived.Deep.RegionWith
namespace Go.Proofs.Ytkanhjafchiikaa.Gf
open Go.RowKit

theorem ret_int {k : IntKind} {a b : Int} (h : a = b) : Ending.returned (.int k a) = .returned (.int k b) := by rw [h]
theorem val_int {k : IntKind} {a b : Int} (h : a = b) : Value.int k a = .int k b := by rw [h]

theorem xor64 {a b : Nat} (ha : a < 65536) (hb : b < 65536) : bits .xor .i64 (a : Int) (b : Int) = ((a ^^^ b : Nat) : Int) := by
  have hx : a ^^^ b < 2 ^ 16 := Nat.xor_lt_two_pow (by omega) (by omega)
  show IntKind.i64.wrap ((BitVec.ofInt 64 (a : Int) ^^^ BitVec.ofInt 64 (b : Int)).toNat : Int) = _
  rw [BitVec.toNat_xor, ofInt_u64 a (by omega), ofInt_u64 b (by omega), IntKind.wrap_i64]
  omega
theorem and1 {a : Nat} (ha : a < 65536) : bits .and .i64 (a : Int) 1 = ((a % 2 : Nat) : Int) := by
  show IntKind.i64.wrap ((BitVec.ofInt 64 (a : Int) &&& BitVec.ofInt 64 1).toNat : Int) = _
  have h1 : (BitVec.ofInt 64 1).toNat = 1 := by decide
  rw [BitVec.toNat_and, ofInt_u64 a (by omega), h1, Nat.and_one_is_mod, IntKind.wrap_i64]
  omega

/-- GfMul, whatever it is given -/
def el (a : Int) : Bool := decide (0 ≤ a ∧ a ≤ 255)
def mulZ (a b : Int) : Int := if el a && el b then (mul a.toNat b.toNat : Nat) else 0

theorem isEl_any (a : Int) (w : World) : Calls Try.prog 73 #[.int .i64 a] w fun e w' => e = .returned (.bool (el a)) ∧ w' = w := by
  by_cases h0 : 0 ≤ a
  · by_cases h1 : a ≤ 255
    · have hh : el a = true := by simp [el, h0, h1]
      go_enter Try.func73, Try.ntmps73
      go_wp2
      go_ret
      simp_all
    · have hh : el a = false := by simp [el]; omega
      go_enter Try.func73, Try.ntmps73
      go_wp2
      go_ret
      simp_all
  · have hh : el a = false := by simp [el]; omega
    go_enter Try.func73, Try.ntmps73
    go_wp2
    go_ret
    simp_all

theorem proTo_lt {a : Nat} (ha : a < 256) (b : Nat) : ∀ k, k ≤ 8 → proTo k a b < 65536
  | 0, _ => by simp [proTo]
  | k + 1, h => by
    unfold proTo
    refine Nat.xor_lt_two_pow (n := 16) (proTo_lt ha b k (by omega)) ?_
    split
    · rw [Nat.shiftLeft_eq]
      have h2 : (2 : Nat) ^ k ≤ 2 ^ 7 := Nat.pow_le_pow_right (by omega) (by omega)
      calc a * 2 ^ k ≤ 255 * 2 ^ 7 := Nat.mul_le_mul (by omega) h2
        _ < 2 ^ 16 := by decide
    · decide

theorem shr_test (b k : Nat) (hb : b < 65536) (h : b.testBit k = true) : (bits .and .i64 ((b : Int) / 2 ^ k) 1 == 1) = true := by
  have h2 : ((b : Int) / 2 ^ k) = ((b / 2 ^ k : Nat) : Int) := by simp
  rw [h2, and1 (Nat.lt_of_le_of_lt (Nat.div_le_self _ _) hb)]
  rw [Nat.testBit_eq_decide_div_mod_eq] at h
  simp at h
  rw [h]; rfl
theorem shr_test' (b k : Nat) (hb : b < 65536) (h : ¬ b.testBit k = true) : (bits .and .i64 ((b : Int) / 2 ^ k) 1 == 1) = false := by
  have h2 : ((b : Int) / 2 ^ k) = ((b / 2 ^ k : Nat) : Int) := by simp
  rw [h2, and1 (Nat.lt_of_le_of_lt (Nat.div_le_self _ _) hb)]
  rw [Nat.testBit_eq_decide_div_mod_eq] at h
  simp at h
  rw [beq_eq_false_iff_ne]; omega

theorem wrap64_small {a : Int} (h : 0 ≤ a) (h2 : a < 65536) : wrap64 a = a := by unfold wrap64; omega
theorem cast_shl (a k : Nat) : ((a * 2 ^ k : Nat) : Int) = (a : Int) * 2 ^ k := by rw [Int.natCast_mul, Int.natCast_pow]; rfl
theorem shl_lt (a k : Nat) (ha : a < 256) (hk : k < 8) : (a : Int) * 2 ^ k < 65536 := by
  have h2 : (2 : Nat) ^ k ≤ 2 ^ 7 := Nat.pow_le_pow_right (by omega) (by omega)
  have h : a * 2 ^ k ≤ 255 * 2 ^ 7 := Nat.mul_le_mul (by omega) h2
  have h' : ((a * 2 ^ k : Nat) : Int) ≤ ((255 * 2 ^ 7 : Nat) : Int) := Int.ofNat_le.mpr h
  have h3 := cast_shl a k
  rw [← h3]; omega
theorem shl_ge (a k : Nat) : 0 ≤ (a : Int) * 2 ^ k := by
  have h3 := cast_shl a k
  rw [← h3]; omega
theorem pro_step {a b k : Nat} (ha : a < 256) (hx : proTo k a b < 65536) (hk : k < 8) (e : b.testBit k = true) : bits .xor .i64 ((proTo k a b : Nat) : Int) (wrap64 ((a : Int) * 2 ^ k)) = ((proTo (k + 1) a b : Nat) : Int) := by
  have h2 : (a : Int) * 2 ^ k = ((a <<< k : Nat) : Int) := by rw [Nat.shiftLeft_eq]; exact (cast_shl a k).symm
  have hs1 := shl_lt a k ha hk
  rw [h2] at hs1 ⊢
  rw [wrap64_small (Int.natCast_nonneg _) (by omega), xor64 hx (by omega), proTo, if_pos e]
theorem red_ge (k : Nat) : 0 ≤ (285 : Int) * 2 ^ k := shl_ge 285 k
theorem red_lt (k : Nat) (hk : k < 7) : (285 : Int) * 2 ^ k < 65536 := by
  have h2 : (2 : Nat) ^ k ≤ 2 ^ 6 := Nat.pow_le_pow_right (by omega) (by omega)
  have h : 285 * 2 ^ k ≤ 285 * 2 ^ 6 := Nat.mul_le_mul (by omega) h2
  have h' : ((285 * 2 ^ k : Nat) : Int) ≤ ((285 * 2 ^ 6 : Nat) : Int) := Int.ofNat_le.mpr h
  have h3 : ((285 * 2 ^ k : Nat) : Int) = (285 : Int) * 2 ^ k := cast_shl 285 k
  rw [← h3]; omega
theorem red_step {q k : Nat} (hq : q < 65536) (hk : k < 7) (e : q.testBit (8 + k) = true) : bits .xor .i64 (q : Int) (wrap64 ((285 : Int) * 2 ^ k)) = ((redAt k q : Nat) : Int) := by
  have h2 : (285 : Int) * (2 : Int) ^ k = ((285 <<< k : Nat) : Int) := by rw [Nat.shiftLeft_eq]; exact (cast_shl 285 k).symm
  have hs1 := red_lt k hk
  rw [h2] at hs1 ⊢
  rw [wrap64_small (Int.natCast_nonneg _) (by omega), xor64 hq (by omega), redAt, if_pos e]
theorem red_no {q k : Nat} (e : ¬ q.testBit (8 + k) = true) : redAt k q = q := by rw [redAt, if_neg e]; simp
theorem redAt_lt {q k : Nat} (hq : q < 65536) (hk : k < 7) : redAt k q < 65536 := by
  refine Nat.xor_lt_two_pow (n := 16) hq ?_
  split
  · rw [Nat.shiftLeft_eq]; have := red_lt k hk
    have h3 : ((285 * 2 ^ k : Nat) : Int) = (285 : Int) * 2 ^ k := cast_shl 285 k
    rw [← h3] at this; omega
  · decide

set_option maxRecDepth 100000 in
theorem mulP_any (a b : Nat) (w : World) (ha : a < 256) (hb : b < 256) :
    Calls Try.prog 57 #[.int .i64 a, .int .i64 b] w fun e w' => e = .returned (.int .i64 (mul a b : Nat)) ∧ w = w' := by
  have ea : el (a : Int) = true := by simp [el]; omega
  have eb : el (b : Int) = true := by simp [el]; omega
  have HE : Hid (mul a b = redTo 7 (proTo 8 a b)) := (mulP_eq ha hb).symm
  generalize mul a b = z at *
  go_enter Try.func57, Try.ntmps57
  go_wp2_with (go_at_call 73; refine (isEl_any _ _).mono ?_; rintro e w' ⟨rfl, rfl⟩)
  go_loop [5, 16] (fun p i => ∃ (k : Nat), k ≤ 8 ∧ i = .int .i64 k ∧ p = .int .i64 (proTo k a b : Nat)) (fun _ i => 8 - (intOf i).toNat)
  case atStart => exact ⟨0, by omega, rfl, rfl⟩
  case round =>
    obtain ⟨k, hk, rfl, rfl⟩ := hrel
    have hx := proTo_lt ha b k hk
    by_cases hlt : k < 8
    · by_cases e : b.testBit k = true
      · have ht := shr_test b k (by omega) e
        have HS : Hid (bits .xor .i64 ((proTo k a b : Nat) : Int) (wrap64 ((a : Int) * 2 ^ k)) = ((proTo (k + 1) a b : Nat) : Int)) := pro_step ha hx hlt e
        go_wp2
        go_round
        case rel => exact ⟨k + 1, by omega, by go_num, val_int HS.out⟩
        case measure => simp [intOf]; omega
      · have ht := shr_test' b k (by omega) e
        go_wp2
        go_round
        case rel => exact ⟨k + 1, by omega, by go_num, val_int (by rw [proTo, if_neg e]; simp)⟩
        case measure => simp [intOf]; omega
    · obtain rfl : k = 8 := by omega
      generalize proTo 8 a b = p at *
      go_wp2
      go_loop [5, 7] (fun p' i => ∃ (j q : Nat), j ≤ 7 ∧ i = .int .i64 ((j : Int) - 1) ∧ p' = .int .i64 (q : Nat) ∧ q < 65536 ∧ redTo j q = redTo 7 p) (fun _ i => (intOf i + 1).toNat)
      case atStart => exact ⟨7, p, by omega, rfl, rfl, hx, rfl⟩
      case round =>
        obtain ⟨j, q, hj, rfl, rfl, hq, hr⟩ := hrel
        have HR : Hid (redTo j q = redTo 7 p) := hr
        clear hr
        by_cases h0 : j = 0
        · subst h0
          go_wp2
          go_ret
          exact ⟨ret_int (by rw [HE.out, ← HR.out]; rfl), rfl⟩
        · obtain ⟨i, rfl⟩ : ∃ i, j = i + 1 := ⟨j - 1, by omega⟩
          clear h0
          have e1 : ((i + 1 : Nat) : Int) - 1 = i := by push_cast; omega
          rw [e1]
          have e2 : (8 : Int) + i = ((8 + i : Nat) : Int) := by push_cast; rfl
          have HL : Hid (redAt i q < 65536) := redAt_lt hq (by omega)
          by_cases e : q.testBit (8 + i) = true
          · have ht := shr_test q (8 + i) hq e
            have HS : Hid (bits .xor .i64 (q : Int) (wrap64 ((285 : Int) * 2 ^ i)) = ((redAt i q : Nat) : Int)) := red_step hq (by omega) e
            clear e2
            go_wp2
            go_round
            case rel => exact ⟨i, redAt i q, by omega, rfl, val_int HS.out, HL.out, HR.out⟩
            case measure => simp [intOf]
          · have ht := shr_test' q (8 + i) hq e
            have HS : Hid (redAt i q = q) := red_no e
            clear e2
            go_wp2
            go_round
            case rel => exact ⟨i, q, by omega, rfl, rfl, hq, by rw [← HR.out]; show _ = redTo i (redAt i q); rw [HS.out]⟩
            case measure => simp [intOf]

theorem xt_no {a : Nat} (h : a < 128) : xt a = 2 * a := by
  have : a.testBit 7 = false := Nat.testBit_lt_two_pow (Nat.lt_of_lt_of_le h (by decide))
  simp [xt, this]
theorem xt_yes {a : Nat} (h : a < 256) (h2 : ¬ a < 128) : xt a = (2 * a) ^^^ 285 := by
  have : ∀ a, a < 256 → ¬ a < 128 → a.testBit 7 = true := by decide +kernel
  simp [xt, this a h h2]
theorem mulTo_zero : ∀ k a, mulTo k a 0 = 0 := fun k a => lin_of0 (lin_mulTo_right k a)

/-- a round of the model's loop -/
def MulRel (z n x y : Nat) : Prop := ∃ k, y < 2 ^ k ∧ n < 256 ∧ x < 256 ∧ n ^^^ mulTo k x y = z
theorem mulRel_start {a b : Nat} (ha : a < 256) (hb : b < 256) : MulRel (mul a b) 0 a b := ⟨8, hb, by omega, ha, by simp [mul]⟩
theorem mulRel_end {z n x : Nat} (h : MulRel z n x 0) : n = z := by
  obtain ⟨k, _, _, _, h⟩ := h
  rw [mulTo_zero] at h; simpa using h
theorem mulRel_lt {z n x y : Nat} (h : MulRel z n x y) : n < 256 ∧ x < 256 := ⟨h.choose_spec.2.1, h.choose_spec.2.2.1⟩
theorem mulRel_yes {z n x y : Nat} (h : MulRel z n x y) (e : y % 2 = 1) : MulRel z (n ^^^ x) (xt x) (y / 2) := by
  obtain ⟨k, h1, h2, h3, h4⟩ := h
  obtain ⟨j, rfl⟩ : ∃ j, k = j + 1 := ⟨k - 1, by cases k <;> simp at *; omega⟩
  refine ⟨j, by rw [Nat.pow_succ] at h1; omega, xor8 h2 h3, xt_lt h3, ?_⟩
  rw [← h4, mulTo, if_pos e, Nat.xor_assoc]
theorem mulRel_no {z n x y : Nat} (h : MulRel z n x y) (hy : y ≠ 0) (e : ¬ y % 2 = 1) : MulRel z n (xt x) (y / 2) := by
  obtain ⟨k, h1, h2, h3, h4⟩ := h
  obtain ⟨j, rfl⟩ : ∃ j, k = j + 1 := ⟨k - 1, by cases k <;> simp at *; omega⟩
  refine ⟨j, by rw [Nat.pow_succ] at h1; omega, h2, xt_lt h3, ?_⟩
  rw [← h4, mulTo, if_neg e]; simp

theorem xor285 {x : Nat} (h : x < 256) (h2 : ¬ x < 128) : bits .xor .i64 (2 * (x : Int)) 285 = ((xt x : Nat) : Int) := by
  have := xor64 (a := 2 * x) (b := 285) (by omega) (by omega)
  rw [xt_yes h h2, ← this]; simp

set_option maxRecDepth 100000 in
theorem l05Mul_any (a b : Nat) (w : World) (ha : a < 256) (hb : b < 256) :
    Calls Try.prog 79 #[.int .i64 a, .int .i64 b] w fun e w' => e = .returned (.int .i64 (mul a b : Nat)) ∧ w = w' := by
  have HM : Hid (MulRel (mul a b) 0 a b) := mulRel_start ha hb
  generalize mul a b = z at *
  go_enter Try.func79, Try.ntmps79
  go_wp2
  go_loop [0, 1, 5] (fun x' y' n' => ∃ (x y n : Nat), y < 256 ∧ x' = .int .i64 x ∧ y' = .int .i64 y ∧ n' = .int .i64 n ∧ MulRel z n x y) (fun _ y' _ => (intOf y').toNat)
  case atStart => exact ⟨a, b, 0, hb, rfl, rfl, rfl, HM.out⟩
  case round =>
    obtain ⟨x, y, n, hy, rfl, rfl, rfl, hm⟩ := hrel
    obtain ⟨hn, hx⟩ := mulRel_lt hm
    have HR : Hid (MulRel z n x y) := hm
    clear hm HM ha hb
    by_cases h0 : y = 0
    · subst h0
      go_wp2
      go_ret
      exact ⟨ret_int (by rw [mulRel_end HR.out]), rfl⟩
    · have hd : (y : Int) / 2 = ((y / 2 : Nat) : Int) := by simp
      have HD : Hid ((y : Int) / 2 = ((y / 2 : Nat) : Int)) := hd
      clear hd
      by_cases h1 : y % 2 = 1
      · have HX : Hid (bits .xor .i64 (n : Int) (x : Int) = ((n ^^^ x : Nat) : Int)) := xor64 (by omega) (by omega)
        by_cases h2 : x < 128
        · have HT : Hid (2 * (x : Int) = (xt x : Nat)) := by show _ = _; rw [xt_no h2]; simp
          go_wp2
          go_round
          case rel => exact ⟨xt x, y / 2, n ^^^ x, by omega, val_int HT.out, val_int HD.out, val_int HX.out, mulRel_yes HR.out h1⟩
          case measure => simp [intOf]; omega
        · have HT : Hid (bits .xor .i64 (2 * (x : Int)) 285 = ((xt x : Nat) : Int)) := xor285 hx h2
          go_wp2
          go_round
          case rel => exact ⟨xt x, y / 2, n ^^^ x, by omega, val_int HT.out, val_int HD.out, val_int HX.out, mulRel_yes HR.out h1⟩
          case measure => simp [intOf]; omega
      · by_cases h2 : x < 128
        · have HT : Hid (2 * (x : Int) = (xt x : Nat)) := by show _ = _; rw [xt_no h2]; simp
          go_wp2
          go_round
          case rel => exact ⟨xt x, y / 2, n, by omega, val_int HT.out, val_int HD.out, rfl, mulRel_no HR.out h0 h1⟩
          case measure => simp [intOf]; omega
        · have HT : Hid (bits .xor .i64 (2 * (x : Int)) 285 = ((xt x : Nat) : Int)) := xor285 hx h2
          go_wp2
          go_round
          case rel => exact ⟨xt x, y / 2, n, by omega, val_int HT.out, val_int HD.out, rfl, mulRel_no HR.out h0 h1⟩
          case measure => simp [intOf]; omega
end Go.Proofs.Ytkanhjafchiikaa.Gf
