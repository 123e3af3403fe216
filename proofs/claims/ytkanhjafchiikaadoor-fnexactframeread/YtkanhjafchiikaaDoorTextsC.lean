/- Laws that the proof rests on, put together: What the multiplying functions of the program and of the model answer, by contracts. What GfMul, GfInv and GfDiv of the program and of the model answer, whatever they are given. What the laws' own functions on lists of pending writes answer. Lists of pending writes, sized, marked and held by the laws' own functions. A disk that came in, opened: its sectors and its pending writes. What the laws' own functions on disks answer. What the model's DiskRight answers. What the laws' own functions that weigh a disk answer. What the laws' own functions answer that weigh, mark and look at a disk. What the laws' own functions on lists of numbers (int64) answer: copied, compared, marked. The line through places of chapter 6 as a function of numbers, and lists of numbers in memory. What the two Seal functions answer, by contracts. A disk of the call's own, within a range of blocks; the laws' functions on it. 'append([]T{}, xs...)': a copy of a list of texts, of pending writes, in a block of its own. A list of values of one cell each that the call itself appends to; texts. 'append(b, s...)' of a text to bytes of the call's own, and the text of these. -/
import Derived.Test.YtkanhjafchiikaaDoorRows
import Derived.Test.YtkanhjafchiikaaDoorGfPure
import Derived.WalkKit
import Derived.Below
import Derived.Laws.ShiftsVarLaws
import Derived.WalkSpells
import Derived.Deep.RegionWith
import Derived.Test.YtkanhjafchiikaaDoorHarnStr
import Derived.ProofKit
import Derived.OpenShut
import Derived.SliceStrings
import Derived.Deep.SlicePairs
import Derived.Lib.SmallJoins
import Derived.Test.YtkanhjafchiikaaDoorTextsA
import Derived.Deep.AppendLies
import Derived.ArgAppend
import Derived.Test.YtkanhjafchiikaaDoorCrc
import Derived.Test.YtkanhjafchiikaaDoorTextsB
import Derived.Deep.Upon
import Derived.Deep.RegionHeld3
import Derived.Lib.AppendStr
/- What the multiplying functions of the program and of the model answer, by contracts. -/
namespace Go.Proofs.YtkanhjafchiikaaDoor.Gf
open Go.RowKit

theorem ret_int {k : IntKind} {a b : Int} (h : a = b) : Ending.returned (.int k a) = .returned (.int k b) := by rw [h]
theorem val_int {k : IntKind} {a b : Int} (h : a = b) : Value.int k a = .int k b := by rw [h]

theorem xor64 {a b : Nat} (ha : a < 65536) (hb : b < 65536) : bits .xor .i64 (a : Int) (b : Int) = ((a ^^^ b : Nat) : Int) := by
  have hx : a ^^^ b < 2 ^ 16 := Nat.xor_lt_two_pow (by omega) (by omega)
  show IntKind.i64.wrap ((BitVec.ofInt 64 (a : Int) ^^^ BitVec.ofInt 64 (b : Int)).toNat : Int) = _
  rw [BitVec.toNat_xor, ofInt_u64 a (by omega), ofInt_u64 b (by omega), IntKind.wrap_i64]
  omega
theorem and1 {a : Nat} (ha : a < 65536) : bits .and .i64 (a : Int) 1 = ((a % 2 : Nat) : Int) := by
  show IntKind.i64.wrap ((BitVec.ofInt 64 (a : Int) &&& BitVec.ofInt 64 1).toNat : Int) = _
  have h1 : (BitVec.ofInt 64 1).toNat = 1 := by decide
  rw [BitVec.toNat_and, ofInt_u64 a (by omega), h1, Nat.and_one_is_mod, IntKind.wrap_i64]
  omega

/-- GfMul, whatever it is given -/
def el (a : Int) : Bool := decide (0 ≤ a ∧ a ≤ 255)
def mulZ (a b : Int) : Int := if el a && el b then (mul a.toNat b.toNat : Nat) else 0

theorem proTo_lt {a : Nat} (ha : a < 256) (b : Nat) : ∀ k, k ≤ 8 → proTo k a b < 65536
  | 0, _ => by simp [proTo]
  | k + 1, h => by
    unfold proTo
    refine Nat.xor_lt_two_pow (n := 16) (proTo_lt ha b k (by omega)) ?_
    split
    · rw [Nat.shiftLeft_eq]
      have h2 : (2 : Nat) ^ k ≤ 2 ^ 7 := Nat.pow_le_pow_right (by omega) (by omega)
      calc a * 2 ^ k ≤ 255 * 2 ^ 7 := Nat.mul_le_mul (by omega) h2
        _ < 2 ^ 16 := by decide
    · decide

theorem shr_test (b k : Nat) (hb : b < 65536) (h : b.testBit k = true) : (bits .and .i64 ((b : Int) / 2 ^ k) 1 == 1) = true := by
  have h2 : ((b : Int) / 2 ^ k) = ((b / 2 ^ k : Nat) : Int) := by simp
  rw [h2, and1 (Nat.lt_of_le_of_lt (Nat.div_le_self _ _) hb)]
  rw [Nat.testBit_eq_decide_div_mod_eq] at h
  simp at h
  rw [h]; rfl
theorem shr_test' (b k : Nat) (hb : b < 65536) (h : ¬ b.testBit k = true) : (bits .and .i64 ((b : Int) / 2 ^ k) 1 == 1) = false := by
  have h2 : ((b : Int) / 2 ^ k) = ((b / 2 ^ k : Nat) : Int) := by simp
  rw [h2, and1 (Nat.lt_of_le_of_lt (Nat.div_le_self _ _) hb)]
  rw [Nat.testBit_eq_decide_div_mod_eq] at h
  simp at h
  rw [beq_eq_false_iff_ne]; omega

theorem wrap64_small {a : Int} (h : 0 ≤ a) (h2 : a < 65536) : wrap64 a = a := by unfold wrap64; omega
theorem cast_shl (a k : Nat) : ((a * 2 ^ k : Nat) : Int) = (a : Int) * 2 ^ k := by rw [Int.natCast_mul, Int.natCast_pow]; rfl
theorem shl_lt (a k : Nat) (ha : a < 256) (hk : k < 8) : (a : Int) * 2 ^ k < 65536 := by
  have h2 : (2 : Nat) ^ k ≤ 2 ^ 7 := Nat.pow_le_pow_right (by omega) (by omega)
  have h : a * 2 ^ k ≤ 255 * 2 ^ 7 := Nat.mul_le_mul (by omega) h2
  have h' : ((a * 2 ^ k : Nat) : Int) ≤ ((255 * 2 ^ 7 : Nat) : Int) := Int.ofNat_le.mpr h
  have h3 := cast_shl a k
  rw [← h3]; omega
theorem shl_ge (a k : Nat) : 0 ≤ (a : Int) * 2 ^ k := by
  have h3 := cast_shl a k
  rw [← h3]; omega
theorem pro_step {a b k : Nat} (ha : a < 256) (hx : proTo k a b < 65536) (hk : k < 8) (e : b.testBit k = true) : bits .xor .i64 ((proTo k a b : Nat) : Int) (wrap64 ((a : Int) * 2 ^ k)) = ((proTo (k + 1) a b : Nat) : Int) := by
  have h2 : (a : Int) * 2 ^ k = ((a <<< k : Nat) : Int) := by rw [Nat.shiftLeft_eq]; exact (cast_shl a k).symm
  have hs1 := shl_lt a k ha hk
  rw [h2] at hs1 ⊢
  rw [wrap64_small (Int.natCast_nonneg _) (by omega), xor64 hx (by omega), proTo, if_pos e]
theorem red_ge (k : Nat) : 0 ≤ (285 : Int) * 2 ^ k := shl_ge 285 k
theorem red_lt (k : Nat) (hk : k < 7) : (285 : Int) * 2 ^ k < 65536 := by
  have h2 : (2 : Nat) ^ k ≤ 2 ^ 6 := Nat.pow_le_pow_right (by omega) (by omega)
  have h : 285 * 2 ^ k ≤ 285 * 2 ^ 6 := Nat.mul_le_mul (by omega) h2
  have h' : ((285 * 2 ^ k : Nat) : Int) ≤ ((285 * 2 ^ 6 : Nat) : Int) := Int.ofNat_le.mpr h
  have h3 : ((285 * 2 ^ k : Nat) : Int) = (285 : Int) * 2 ^ k := cast_shl 285 k
  rw [← h3]; omega
theorem red_step {q k : Nat} (hq : q < 65536) (hk : k < 7) (e : q.testBit (8 + k) = true) : bits .xor .i64 (q : Int) (wrap64 ((285 : Int) * 2 ^ k)) = ((redAt k q : Nat) : Int) := by
  have h2 : (285 : Int) * (2 : Int) ^ k = ((285 <<< k : Nat) : Int) := by rw [Nat.shiftLeft_eq]; exact (cast_shl 285 k).symm
  have hs1 := red_lt k hk
  rw [h2] at hs1 ⊢
  rw [wrap64_small (Int.natCast_nonneg _) (by omega), xor64 hq (by omega), redAt, if_pos e]
theorem red_no {q k : Nat} (e : ¬ q.testBit (8 + k) = true) : redAt k q = q := by rw [redAt, if_neg e]; simp
theorem redAt_lt {q k : Nat} (hq : q < 65536) (hk : k < 7) : redAt k q < 65536 := by
  refine Nat.xor_lt_two_pow (n := 16) hq ?_
  split
  · rw [Nat.shiftLeft_eq]; have := red_lt k hk
    have h3 : ((285 * 2 ^ k : Nat) : Int) = (285 : Int) * 2 ^ k := cast_shl 285 k
    rw [← h3] at this; omega
  · decide

theorem xt_no {a : Nat} (h : a < 128) : xt a = 2 * a := by
  have : a.testBit 7 = false := Nat.testBit_lt_two_pow (Nat.lt_of_lt_of_le h (by decide))
  simp [xt, this]
theorem xt_yes {a : Nat} (h : a < 256) (h2 : ¬ a < 128) : xt a = (2 * a) ^^^ 285 := by
  have : ∀ a, a < 256 → ¬ a < 128 → a.testBit 7 = true := by decide +kernel
  simp [xt, this a h h2]
theorem mulTo_zero : ∀ k a, mulTo k a 0 = 0 := fun k a => lin_of0 (lin_mulTo_right k a)

/-- a round of the model's loop -/
def MulRel (z n x y : Nat) : Prop := ∃ k, y < 2 ^ k ∧ n < 256 ∧ x < 256 ∧ n ^^^ mulTo k x y = z
theorem mulRel_start {a b : Nat} (ha : a < 256) (hb : b < 256) : MulRel (mul a b) 0 a b := ⟨8, hb, by omega, ha, by simp [mul]⟩
theorem mulRel_end {z n x : Nat} (h : MulRel z n x 0) : n = z := by
  obtain ⟨k, _, _, _, h⟩ := h
  rw [mulTo_zero] at h; simpa using h
theorem mulRel_lt {z n x y : Nat} (h : MulRel z n x y) : n < 256 ∧ x < 256 := ⟨h.choose_spec.2.1, h.choose_spec.2.2.1⟩
theorem mulRel_yes {z n x y : Nat} (h : MulRel z n x y) (e : y % 2 = 1) : MulRel z (n ^^^ x) (xt x) (y / 2) := by
  obtain ⟨k, h1, h2, h3, h4⟩ := h
  obtain ⟨j, rfl⟩ : ∃ j, k = j + 1 := ⟨k - 1, by cases k <;> simp at *; omega⟩
  refine ⟨j, by rw [Nat.pow_succ] at h1; omega, xor8 h2 h3, xt_lt h3, ?_⟩
  rw [← h4, mulTo, if_pos e, Nat.xor_assoc]
theorem mulRel_no {z n x y : Nat} (h : MulRel z n x y) (hy : y ≠ 0) (e : ¬ y % 2 = 1) : MulRel z n (xt x) (y / 2) := by
  obtain ⟨k, h1, h2, h3, h4⟩ := h
  obtain ⟨j, rfl⟩ : ∃ j, k = j + 1 := ⟨k - 1, by cases k <;> simp at *; omega⟩
  refine ⟨j, by rw [Nat.pow_succ] at h1; omega, h2, xt_lt h3, ?_⟩
  rw [← h4, mulTo, if_neg e]; simp

theorem xor285 {x : Nat} (h : x < 256) (h2 : ¬ x < 128) : bits .xor .i64 (2 * (x : Int)) 285 = ((xt x : Nat) : Int) := by
  have := xor64 (a := 2 * x) (b := 285) (by omega) (by omega)
  rw [xt_yes h h2, ← this]; simp

end Go.Proofs.YtkanhjafchiikaaDoor.Gf

/- What GfMul, GfInv and GfDiv of the program and of the model answer, whatever they are given. -/
namespace Go.Proofs.YtkanhjafchiikaaDoor.Gf
open Go.RowKit

theorem el_nat {a : Int} (h : el a = true) : ∃ n : Nat, a = n ∧ n < 256 := by
  simp [el] at h; exact ⟨a.toNat, by omega, by omega⟩
theorem el_of {n : Nat} (h : n < 256) : el (n : Int) = true := by simp [el]; omega
theorem mulZ_nat {a b : Nat} (ha : a < 256) (hb : b < 256) : mulZ a b = (mul a b : Nat) := by
  simp [mulZ, el_of ha, el_of hb]
theorem mulZ_no {a b : Int} (h : ¬ (el a = true ∧ el b = true)) : mulZ a b = 0 := by
  unfold mulZ; rw [if_neg]; simpa using h

def invZ (a : Int) : Int := if el a && decide (a ≠ 0) then (inv a.toNat : Nat) else 0
theorem invZ_nat {a : Nat} (ha : a < 256) : invZ a = (inv a : Nat) := by
  by_cases h : a = 0
  · subst h; rw [inv_zero]; rfl
  · simp only [invZ, el_of ha]; rw [if_pos (by simp; omega)]; rfl
theorem invZ_no {a : Int} (h : el a = false) : invZ a = 0 := by simp [invZ, h]
theorem invZ_zero : invZ 0 = 0 := rfl
def divZ (a b : Int) : Int := mulZ a (invZ b)
theorem divZ_nat {a b : Nat} (ha : a < 256) (hb : b < 256) : divZ a b = (mul a (inv b) : Nat) := by
  unfold divZ; rw [invZ_nat hb, mulZ_nat ha (inv_lt hb)]
theorem mulZ_zero (a : Int) : mulZ a 0 = 0 := by
  unfold mulZ; split
  · simp [mul_zero]
  · rfl

/-- is it from low to high? -/
def isB (n l h : Int) : Bool := decide (l ≤ n ∧ n ≤ h)
theorem l05Is_any (n l h : Int) (w : World) : Calls Tryd.prog 31 #[.int .i64 n, .int .i64 l, .int .i64 h] w fun e w' => e = .returned (.bool (isB n l h)) ∧ w = w' := by
  by_cases h0 : l ≤ n
  · by_cases h1 : n ≤ h
    · have hh : isB n l h = true := by simp [isB, h0, h1]
      go_enter Tryd.func31, Tryd.ntmps31
      go_wp2
      go_ret
      simp_all
    · have hh : isB n l h = false := by simp [isB]; omega
      go_enter Tryd.func31, Tryd.ntmps31
      go_wp2
      go_ret
      simp_all
  · have hh : isB n l h = false := by simp [isB]; omega
    go_enter Tryd.func31, Tryd.ntmps31
    go_wp2
    go_ret
    simp_all
theorem invTo_s1 (k a : Nat) : (invTo (k + 1) a).2 = mul (invTo k a).2 (invTo k a).2 := rfl
theorem invTo_s0 (k a : Nat) : (invTo (k + 1) a).1 = mul (invTo k a).1 (invTo (k + 1) a).2 := rfl

theorem is1_yes {m : Nat} (hm : m < 256) (h0 : ¬ m = 0) : isB (m : Int) 1 255 = true := by simp [isB]; omega
theorem is1_no {a : Int} (h : el a = false) : isB a 1 255 = false := by simp [isB, el] at *; omega

end Go.Proofs.YtkanhjafchiikaaDoor.Gf

/- What the laws' own functions on lists of pending writes answer. -/
namespace Go.Proofs.YtkanhjafchiikaaDoor.Harn
open Go.RowKit Go.Proofs.YtkanhjafchiikaaDoor.Mem Go.Proofs.YtkanhjafchiikaaDoor.Mark

/-- The slice v reads as the pending writes l. -/
def Pends (W : World) (v : Value) (l : List (Int × ByteArray)) : Prop :=
  ∃ a cap, v = .slice a l.length cap ∧ ∀ j (h : j < l.length), ∃ b o, a = some ⟨b, o, none⟩ ∧ W.cell? ⟨b, o + j * 2, none⟩ = some (.int .i64 l[j].1) ∧ W.cell? ⟨b, o + j * 2 + 1, none⟩ = some (.string l[j].2)

theorem Pends.below {W W' : World} {v : Value} {l : List (Int × ByteArray)} (h : Pends W v l) (hb : Below W.heap.size W W') : Pends W' v l := by
  obtain ⟨a, cap, hv, hc⟩ := h
  refine ⟨a, cap, hv, fun j hj => ?_⟩
  obtain ⟨b, o, ha, h1, h2⟩ := hc j hj
  refine ⟨b, o, ha, ?_, ?_⟩
  · rw [hb.cell (World.block_lt_of_cell? W _ h1)]; exact h1
  · rw [hb.cell (World.block_lt_of_cell? W _ h2)]; exact h2

/-- The pending writes l lie in block g from place o on, and may be written. -/
def PendsAt (W : World) (g o : Nat) (l : List (Int × ByteArray)) : Prop := ∀ j (h : j < l.length), W.cell? ⟨g, o + j * 2, none⟩ = some (.int .i64 l[j].1) ∧ W.cell? ⟨g, o + j * 2 + 1, none⟩ = some (.string l[j].2) ∧ W.frozen? ⟨g, o + j * 2, none⟩ = false ∧ W.frozen? ⟨g, o + j * 2 + 1, none⟩ = false

theorem PendsAt.pends {W : World} {g o : Nat} {l : List (Int × ByteArray)} (h : PendsAt W g o l) (c : Nat) : Pends W (.slice (some ⟨g, o, none⟩) l.length c) l :=
  ⟨_, c, rfl, fun j hj => ⟨g, o, rfl, (h j hj).1, (h j hj).2.1⟩⟩
theorem PendsAt.below {W W' : World} {g o : Nat} {l : List (Int × ByteArray)} (h : PendsAt W g o l) (hb : Below W.heap.size W W') : PendsAt W' g o l := fun j hj => by
  obtain ⟨h1, h2, h3, h4⟩ := h j hj
  have l1 := World.block_lt_of_cell? W _ h1
  have l2 := World.block_lt_of_cell? W _ h2
  exact ⟨(hb.cell l1).trans h1, (hb.cell l2).trans h2, (hb.frozen l1).trans h3, (hb.frozen l2).trans h4⟩
theorem PendsAt.set {W : World} {g o i : Nat} {l : List (Int × ByteArray)} (h : PendsAt W g o l) (hi : i < l.length) (x : Int) (t : ByteArray) : PendsAt ((W.setCell ⟨g, o + i * 2, none⟩ (.int .i64 x)).setCell ⟨g, o + i * 2 + 1, none⟩ (.string t)) g o (l.set i (x, t)) := fun j hj => by
  have hj2 : j < l.length := by simpa using hj
  obtain ⟨h1, h2, h3, h4⟩ := h j hj2
  obtain ⟨k1, k2, _, _⟩ := h i hi
  refine ⟨?_, ?_, by simpa using h3, by simpa using h4⟩
  · rw [World.cell?_setCell_other _ _ _ _ (by intro e; injection e with _ e2 _; omega)]
    by_cases e : i = j
    · subst e
      rw [List.getElem_set_self]
      exact World.cell?_setCell_same _ _ _ k1
    · rw [List.getElem_set_ne e, World.cell?_setCell_other _ _ _ _ (by intro e; injection e with _ e2 _; omega)]
      exact h1
  · by_cases e : i = j
    · subst e
      rw [List.getElem_set_self]
      refine World.cell?_setCell_same _ _ _ (u := .string l[i].2) ?_
      rw [World.cell?_setCell_other _ _ _ _ (by intro e; injection e with _ e2 _; omega)]
      exact k2
    · rw [List.getElem_set_ne e, World.cell?_setCell_other _ _ _ _ (by intro e; injection e with _ e2 _; omega), World.cell?_setCell_other _ _ _ _ (by intro e; injection e with _ e2 _; omega)]
      exact h2

/-- A list of pending writes of which the first k are laid. -/
def pcopy (l : List (Int × ByteArray)) (k : Nat) : List (Int × ByteArray) := l.take k ++ List.replicate (l.length - k) (0, ByteArray.empty)
theorem length_pcopy (l : List (Int × ByteArray)) (k : Nat) (h : k ≤ l.length) : (pcopy l k).length = l.length := by simp [pcopy]; omega
theorem pcopy_start (l : List (Int × ByteArray)) : pcopy l 0 = List.replicate l.length (0, ByteArray.empty) := by simp [pcopy]
theorem pcopy_end (l : List (Int × ByteArray)) : pcopy l l.length = l := by simp [pcopy]
theorem pcopy_set (l : List (Int × ByteArray)) (k : Nat) (hk : k < l.length) : (pcopy l k).set k l[k] = pcopy l (k + 1) := by
  have hl : (l.take k).length = k := by simp; omega
  unfold pcopy
  rw [List.set_append_right _ _ (by omega), hl, Nat.sub_self, show l.length - k = (l.length - (k + 1)) + 1 by omega, List.replicate_succ, List.set_cons_zero, List.take_succ_eq_append_getElem hk]
  simp only [List.append_assoc, List.singleton_append]

end Go.Proofs.YtkanhjafchiikaaDoor.Harn

/- Lists of pending writes, sized, marked and held by the laws' own functions. -/
namespace Go.Proofs.YtkanhjafchiikaaDoor.Harn
open Go.RowKit Go.Proofs.YtkanhjafchiikaaDoor.Mem Go.Proofs.YtkanhjafchiikaaDoor.Mark

theorem PendsAt.set1 {W : World} {g o i : Nat} {l : List (Int × ByteArray)} (h : PendsAt W g o l) (hi : i < l.length) (x : Int) : PendsAt (W.setCell ⟨g, o + i * 2, none⟩ (.int .i64 x)) g o (l.set i (x, l[i].2)) := fun j hj => by
  have hj2 : j < l.length := by simpa using hj
  obtain ⟨h1, h2, h3, h4⟩ := h j hj2
  obtain ⟨k1, k2, _, _⟩ := h i hi
  refine ⟨?_, ?_, by simpa using h3, by simpa using h4⟩
  · by_cases e : i = j
    · subst e
      rw [List.getElem_set_self]
      exact World.cell?_setCell_same _ _ _ k1
    · rw [List.getElem_set_ne e, World.cell?_setCell_other _ _ _ _ (by intro e; injection e with _ e2 _; omega)]
      exact h1
  · rw [World.cell?_setCell_other _ _ _ _ (by intro e; injection e with _ e2 _; omega)]
    by_cases e : i = j
    · subst e
      rw [List.getElem_set_self]
      exact h2
    · rw [List.getElem_set_ne e]
      exact h2
theorem PendsAt.set2 {W : World} {g o i : Nat} {l : List (Int × ByteArray)} (h : PendsAt W g o l) (hi : i < l.length) (t : ByteArray) : PendsAt (W.setCell ⟨g, o + i * 2 + 1, none⟩ (.string t)) g o (l.set i (l[i].1, t)) := fun j hj => by
  have hj2 : j < l.length := by simpa using hj
  obtain ⟨h1, h2, h3, h4⟩ := h j hj2
  obtain ⟨k1, k2, _, _⟩ := h i hi
  refine ⟨?_, ?_, by simpa using h3, by simpa using h4⟩
  · rw [World.cell?_setCell_other _ _ _ _ (by intro e; injection e with _ e2 _; omega)]
    by_cases e : i = j
    · subst e
      rw [List.getElem_set_self]
      exact h1
    · rw [List.getElem_set_ne e]
      exact h1
  · by_cases e : i = j
    · subst e
      rw [List.getElem_set_self]
      exact World.cell?_setCell_same _ _ _ k2
    · rw [List.getElem_set_ne e, World.cell?_setCell_other _ _ _ _ (by intro e; injection e with _ e2 _; omega)]
      exact h2

def marksP (k n : Nat) : List (Int × ByteArray) := (List.range n).map fun i => (((k + 2 * i : Nat) : Int), markB (k + 2 * i + 1))
theorem length_marksP (k n : Nat) : (marksP k n).length = n := by simp [marksP]
def markPTo (l : List (Int × ByteArray)) (k i : Nat) : List (Int × ByteArray) := marksP k i ++ l.drop i
theorem length_markPTo (l : List (Int × ByteArray)) (k i : Nat) (h : i ≤ l.length) : (markPTo l k i).length = l.length := by simp [markPTo, length_marksP]; omega
theorem markPTo_start (l : List (Int × ByteArray)) (k : Nat) : markPTo l k 0 = l := by simp [markPTo, marksP]
theorem markPTo_end (l : List (Int × ByteArray)) (k : Nat) : markPTo l k l.length = marksP k l.length := by simp [markPTo]
theorem markPTo_set (l : List (Int × ByteArray)) (k i : Nat) (h : i < l.length) : (markPTo l k i).set i (((k + 2 * i : Nat) : Int), markB (k + 2 * i + 1)) = markPTo l k (i + 1) := by
  have hl := length_marksP k i
  unfold markPTo
  rw [List.set_append_right _ _ (by omega), hl, Nat.sub_self, List.drop_eq_getElem_cons h, List.set_cons_zero]
  simp [marksP, List.range_succ]

end Go.Proofs.YtkanhjafchiikaaDoor.Harn

/- A disk that came in, opened: its sectors and its pending writes. -/
namespace Go.Proofs.YtkanhjafchiikaaDoor.Harn
open Go.ChangeShapes Go.WideShapes Go.ChangeAt Go.RowKit Go.Deep
variable {H : Type} {enc : TypeId × Value → H}

theorem at_none {W : World} {a : Addr} {v : Value} (h : W.cell? (a.add 0) = some v) : a = ⟨a.block, a.off, none⟩ ∧ ∀ j, a.add j = ⟨a.block, a.off + j, none⟩ := by
  have hs : a.spot = none := by simpa [Addr.add] using World.cell?_spot h
  obtain ⟨b, o, s⟩ := a
  simp only at hs
  subst hs
  refine ⟨rfl, fun j => ?_⟩
  unfold Addr.add
  split <;> simp_all

theorem open_strs_at {P : Program} {t e : TypeId} {W : World} {sp : Nat → Bool} {fuel : Nat} {v : Value} {x : DataW H × List MemPlace} (ht : P.underlying t = some (.slice e)) (he : P.underlying e = some .string) (hc : P.cellsOf e = 1)
    (h : DataW.trod enc P W 0 sp true fuel t [v] = some x) : ∃ l, Strs W v l ∧ l.length ≤ maxLen ∧ ∀ t ∈ l, t.size ≤ maxLen := by
  rcases open_strings ht he hc h with ⟨hcs, _⟩ | ⟨a, len, cap, ss, hcs, _, hl, hm, hz, _, hcell, hsz⟩
  · simp at hcs
    exact ⟨[], ⟨none, 0, hcs, fun j hj => by simp at hj⟩, by simp, by simp⟩
  · simp at hcs
    have hls : len ≤ ss.length := by rw [hz]; split <;> omega
    have hlt : (ss.take len).length = len := by simp; omega
    refine ⟨ss.take len, ⟨some a, cap, by rw [hlt]; exact hcs, fun j hj => ?_⟩, by omega, fun t ht => hsz t (List.mem_of_mem_take ht)⟩
    have hj2 : j < len := by omega
    have hcj := hcell j (by omega)
    obtain ⟨e1, e2⟩ := at_none (hcell 0 (by omega))
    refine ⟨a.block, a.off, by rw [← e1], ?_⟩
    rw [← e2 j, hcj]
    simp [List.getD, List.getElem?_eq_getElem (show j < ss.length by omega)]

def strV : Value → ByteArray | .string s => s | _ => ByteArray.empty

theorem open_pends_at {P : Program} {t e : TypeId} {f0 f1 : Field} {W : World} {sp : Nat → Bool} {fuel : Nat} {v : Value} {x : DataW H × List MemPlace} (ht : P.underlying t = some (.slice e)) (he : P.underlying e = some (.struct #[f0, f1]))
    (ce : P.cellsOf e = 2) (o0 : f0.offset = 0) (o1 : f1.offset = 1) (c0 : P.cellsOf f0.type = 1) (c1 : P.cellsOf f1.type = 1) (u0 : P.underlying f0.type = some (.int .i64)) (u1 : P.underlying f1.type = some .string)
    (h : DataW.trod enc P W 0 sp true fuel t [v] = some x) : ∃ l, Pends W v l ∧ l.length ≤ maxLen ∧ ∀ y ∈ l, y.2.size ≤ maxLen ∧ -9223372036854775808 ≤ y.1 ∧ y.1 ≤ 9223372036854775807 := by
  rcases open_slice_pairs ht he ce o0 o1 c0 c1 h with ⟨hcs, _⟩ | ⟨a, len, cap, m, n, V0, V1, D0, D1, P0, P1, hcs, _, hl, hm, hmm, _, hx⟩
  · simp at hcs
    exact ⟨[], ⟨none, 0, hcs, fun j hj => by simp at hj⟩, by simp, by simp⟩
  · simp at hcs
    have hlm : len ≤ m := by rw [hmm]; split <;> omega
    have each : ∀ i, i < len → ∃ k s, V0 i = .int .i64 k ∧ V1 i = .string s ∧ s.size ≤ maxLen ∧ (Lit.int .i64 k).wf = true := by
      intro i hi
      obtain ⟨_, _, h3, h4⟩ := hx i (by omega)
      obtain ⟨k, e1, _, hw⟩ := DataW.trod_int u0 h3
      obtain ⟨s, e2, _, hs⟩ := DataW.trod_string u1 h4
      simp at e1 e2
      exact ⟨k, s, e1, e2, hs, hw⟩
    refine ⟨(List.range len).map fun i => (intOf (V0 i), strV (V1 i)), ⟨some a, cap, by simpa using hcs, fun j hj => ?_⟩, by simp; omega, fun y hy => ?_⟩
    · have hj2 : j < len := by simpa using hj
      obtain ⟨h1, h2, _, _⟩ := hx j (by omega)
      obtain ⟨k, s, e1, e2, _, _⟩ := each j hj2
      obtain ⟨a1, a2⟩ := at_none (by have := (hx 0 (by omega)).1; simpa using this)
      refine ⟨a.block, a.off, by rw [← a1], ?_, ?_⟩
      · rw [← a2, h1]; simp [e1, intOf]
      · rw [Nat.add_assoc, ← a2, h2]; simp [e2, strV]
    · simp only [List.mem_map, List.mem_range] at hy
      obtain ⟨i, hi, rfl⟩ := hy
      obtain ⟨k, s, e1, e2, hs, hw⟩ := each i hi
      have hb := bounds_i64 hw
      exact ⟨by simp [e2, strV, hs], by simp [e1, intOf]; exact hb.1, by simp [e1, intOf]; exact hb.2⟩

end Go.Proofs.YtkanhjafchiikaaDoor.Harn

/- What the laws' own functions on disks answer. -/
namespace Go.Proofs.YtkanhjafchiikaaDoor.Harn
open Go.RowKit Go.Proofs.YtkanhjafchiikaaDoor.Mem Go.Proofs.YtkanhjafchiikaaDoor.Mark

theorem row_strs {W : World} {g : Nat} {l : List ByteArray} {T : TypeId} (h : HasRow W g (l.map Value.string) T) : StrsAt W g 0 l := fun j hj => by
  refine ⟨?_, by rw [Mem.frozen_of_row h]⟩
  rw [Mem.cell_of_row h]
  simp [hj]

theorem PendsAt.other {W : World} {g o : Nat} {l : List (Int × ByteArray)} (h : PendsAt W g o l) {a : Addr} (ha : a.block ≠ g) (v : Value) : PendsAt (W.setCell a v) g o l := fun j hj => by
  obtain ⟨h1, h2, h3, h4⟩ := h j hj
  refine ⟨?_, ?_, by simpa using h3, by simpa using h4⟩
  · rw [World.cell?_setCell_other _ _ _ _ (by intro e; exact ha (by rw [e]))]; exact h1
  · rw [World.cell?_setCell_other _ _ _ _ (by intro e; exact ha (by rw [e]))]; exact h2

end Go.Proofs.YtkanhjafchiikaaDoor.Harn

/- What the model's DiskRight answers. -/
namespace Go.Proofs.YtkanhjafchiikaaDoor.Disk
open Go.RowKit Go.Proofs.YtkanhjafchiikaaDoor.Mem Go.Proofs.YtkanhjafchiikaaDoor.Harn

/-- A pending write that may stand on a disk of so many sectors. -/
def okP (n : Nat) (y : Int × ByteArray) : Prop := 0 ≤ y.1 ∧ y.1 < n ∧ y.2.size ≤ 64
/-- Is the disk right? -/
def Right (ls : List ByteArray) (lp : List (Int × ByteArray)) : Prop := 1 ≤ ls.length ∧ ls.length ≤ 64 ∧ lp.length ≤ 200 ∧ (∀ t ∈ ls, t.size ≤ 64) ∧ ∀ y ∈ lp, okP ls.length y
def okPB (n : Nat) (y : Int × ByteArray) : Bool := decide (0 ≤ y.1) && decide (y.1 < n) && decide (y.2.size ≤ 64)
def rightB (ls : List ByteArray) (lp : List (Int × ByteArray)) : Bool := decide (1 ≤ ls.length) && decide (ls.length ≤ 64) && decide (lp.length ≤ 200) && ls.all (fun t => decide (t.size ≤ 64)) && lp.all (okPB ls.length)
theorem right_iff (ls : List ByteArray) (lp : List (Int × ByteArray)) : rightB ls lp = true ↔ Right ls lp := by
  simp only [rightB, Right, okPB, okP, Bool.and_eq_true, decide_eq_true_eq, List.all_eq_true, and_assoc]
theorem right_yes {ls : List ByteArray} {lp : List (Int × ByteArray)} (h : Right ls lp) : rightB ls lp = true := (right_iff ls lp).2 h
theorem right_no {ls : List ByteArray} {lp : List (Int × ByteArray)} (h : ¬ Right ls lp) : rightB ls lp = false := by
  cases e : rightB ls lp with
  | false => rfl
  | true => exact absurd ((right_iff ls lp).1 e) h

end Go.Proofs.YtkanhjafchiikaaDoor.Disk

/- What the laws' own functions that weigh a disk answer. -/
namespace Go.Proofs.YtkanhjafchiikaaDoor.Harn
open Go.RowKit Go.Proofs.YtkanhjafchiikaaDoor.Mem Go.Proofs.YtkanhjafchiikaaDoor.Mark

/-- What a list of pending writes weighs. -/
def wtP (l : List (Int × ByteArray)) : Nat := wt (l.map (·.2))
theorem wtP_take (l : List (Int × ByteArray)) (k : Nat) (h : k < l.length) : wtP (l.take (k + 1)) = wtP (l.take k) + l[k].2.size := by
  unfold wtP
  rw [List.take_succ_eq_append_getElem h, List.map_append, wt_append]
  simp [wt]
theorem wtP_le (l : List (Int × ByteArray)) (k : Nat) : wtP (l.take k) ≤ wtP l := by
  unfold wtP
  rw [List.map_take]
  exact wt_le _ _

end Go.Proofs.YtkanhjafchiikaaDoor.Harn

/- What the laws' own functions answer that weigh, mark and look at a disk. -/
namespace Go.Proofs.YtkanhjafchiikaaDoor.Harn
open Go.RowKit Go.Proofs.YtkanhjafchiikaaDoor.Mem Go.Proofs.YtkanhjafchiikaaDoor.Mark

/-- What a disk weighs. -/
def wtD (ls : List ByteArray) (lp : List (Int × ByteArray)) : Nat := ls.length + wt ls + (lp.length + wtP lp)

theorem far_cell {W W' : World} {row : Option Nat} (hg : W.grownBy W' row) (a : Addr) (hlt : a.block < W.heap.size) (hne : some a.block ≠ row) : W'.cell? a = W.cell? a := by
  unfold World.cell?
  rw [hg.block a.block hlt hne]
theorem far_frozen {W W' : World} {row : Option Nat} (hg : W.grownBy W' row) (a : Addr) (hlt : a.block < W.heap.size) (hne : some a.block ≠ row) : W'.frozen? a = W.frozen? a := by
  unfold World.frozen?
  rw [hg.block a.block hlt hne]

/-- What a function left that wrote into one block alone. -/
theorem StrsAt.grown {W W' : World} {b g o : Nat} {l : List ByteArray} (h : StrsAt W g o l) (hg : W.grownBy W' (some b)) (hn : g ≠ b) : StrsAt W' g o l := fun j hj => by
  obtain ⟨h1, h2⟩ := h j hj
  have hlt := World.block_lt_of_cell? W _ h1
  have hne : some g ≠ some b := fun e => hn (Option.some.inj e)
  exact ⟨(far_cell hg _ hlt hne).trans h1, (far_frozen hg _ hlt hne).trans h2⟩
theorem PendsAt.grown {W W' : World} {b g o : Nat} {l : List (Int × ByteArray)} (h : PendsAt W g o l) (hg : W.grownBy W' (some b)) (hn : g ≠ b) : PendsAt W' g o l := fun j hj => by
  obtain ⟨h1, h2, h3, h4⟩ := h j hj
  have hlt := World.block_lt_of_cell? W _ h1
  have hne : some g ≠ some b := fun e => hn (Option.some.inj e)
  exact ⟨(far_cell hg ⟨g, o + j * 2, none⟩ hlt hne).trans h1, (far_cell hg ⟨g, o + j * 2 + 1, none⟩ hlt hne).trans h2, (far_frozen hg ⟨g, o + j * 2, none⟩ hlt hne).trans h3, (far_frozen hg ⟨g, o + j * 2 + 1, none⟩ hlt hne).trans h4⟩

end Go.Proofs.YtkanhjafchiikaaDoor.Harn

/- What the laws' own functions on lists of numbers (int64) answer: copied, compared, marked. -/
namespace Go.Proofs.YtkanhjafchiikaaDoor.Harn
open Go.RowKit Go.Proofs.YtkanhjafchiikaaDoor.Mem Go.Proofs.YtkanhjafchiikaaDoor.Mark

/-- The slice v reads as the numbers l. -/
def Ints (W : World) (v : Value) (l : List Int) : Prop :=
  ∃ a cap, v = .slice a l.length cap ∧ ∀ j (h : j < l.length), ∃ b o, a = some ⟨b, o, none⟩ ∧ W.cell? ⟨b, o + j, none⟩ = some (.int .i64 l[j])

theorem Ints.below {W W' : World} {v : Value} {l : List Int} (h : Ints W v l) (hb : Below W.heap.size W W') : Ints W' v l := by
  obtain ⟨a, cap, hv, hc⟩ := h
  refine ⟨a, cap, hv, fun j hj => ?_⟩
  obtain ⟨b, o, ha, hcell⟩ := hc j hj
  refine ⟨b, o, ha, ?_⟩
  rw [hb.cell (World.block_lt_of_cell? W _ hcell)]
  exact hcell

/-- The numbers l lie in block g from place o on, and may be written. -/
def IntsAt (W : World) (g o : Nat) (l : List Int) : Prop := ∀ j (h : j < l.length), W.cell? ⟨g, o + j, none⟩ = some (.int .i64 l[j]) ∧ W.frozen? ⟨g, o + j, none⟩ = false

theorem IntsAt.ints {W : World} {g o : Nat} {l : List Int} (h : IntsAt W g o l) (c : Nat) : Ints W (.slice (some ⟨g, o, none⟩) l.length c) l :=
  ⟨_, c, rfl, fun j hj => ⟨g, o, rfl, (h j hj).1⟩⟩
theorem IntsAt.below {W W' : World} {g o : Nat} {l : List Int} (h : IntsAt W g o l) (hb : Below W.heap.size W W') : IntsAt W' g o l := fun j hj => by
  have hl := World.block_lt_of_cell? W _ (h j hj).1
  rw [hb.cell hl, hb.frozen hl]
  exact h j hj
theorem IntsAt.grown {W W' : World} {b g o : Nat} {l : List Int} (h : IntsAt W g o l) (hg : W.grownBy W' (some b)) (hn : g ≠ b) : IntsAt W' g o l := fun j hj => by
  obtain ⟨h1, h2⟩ := h j hj
  have hlt := World.block_lt_of_cell? W _ h1
  have hne : some g ≠ some b := fun e => hn (Option.some.inj e)
  exact ⟨(far_cell hg _ hlt hne).trans h1, (far_frozen hg _ hlt hne).trans h2⟩
theorem IntsAt.set {W : World} {g o i : Nat} {l : List Int} (h : IntsAt W g o l) (hi : i < l.length) (t : Int) : IntsAt (W.setCell ⟨g, o + i, none⟩ (.int .i64 t)) g o (l.set i t) := fun j hj => by
  have hj2 : j < l.length := by simpa using hj
  refine ⟨?_, ?_⟩
  · by_cases e : i = j
    · subst e
      rw [List.getElem_set_self]
      exact World.cell?_setCell_same _ _ _ (h i hi).1
    · rw [List.getElem_set_ne e]
      rw [World.cell?_setCell_other W _ _ _ (by intro h2; injection h2 with _ h3 _; omega)]
      exact (h j hj2).1
  · have := (h j hj2).2
    simpa using this
theorem row_ints {W : World} {g : Nat} {l : List Int} {T : TypeId} (h : HasRow W g (l.map (Value.int .i64)) T) : IntsAt W g 0 l := fun j hj => by
  refine ⟨?_, by rw [Mem.frozen_of_row h]⟩
  rw [Mem.cell_of_row h]
  simp [hj]

theorem infoI64 : (Tryd.prog.info? 2).map (fun i => (i.zero, i.size, i.bytes)) = some (some (.int .i64 0), 1, 8) := by kernel_rfl
/-- A list of numbers of which the first k are laid. -/
def icopy (l : List Int) (k : Nat) : List Value := (l.take k).map (Value.int .i64) ++ List.replicate (l.length - k) (.int .i64 0)
theorem icopy_start (l : List Int) : icopy l 0 = List.replicate l.length (.int .i64 0) := by simp [icopy]
theorem icopy_end (l : List Int) : icopy l l.length = l.map (Value.int .i64) := by simp [icopy]
theorem icopy_cell (l : List Int) (k : Nat) (hk : k < l.length) : (icopy l k)[k]? = some (.int .i64 0) := by
  have hl : ((l.take k).map (Value.int .i64)).length = k := by simp; omega
  unfold icopy
  rw [List.getElem?_append_right (by omega), hl, Nat.sub_self, List.getElem?_replicate, if_pos (by omega)]
theorem icopy_set (l : List Int) (k : Nat) (hk : k < l.length) : (icopy l k).set k (.int .i64 l[k]) = icopy l (k + 1) := by
  have hl : ((l.take k).map (Value.int .i64)).length = k := by simp; omega
  unfold icopy
  rw [List.set_append_right _ _ (by omega), hl, Nat.sub_self, show l.length - k = (l.length - (k + 1)) + 1 by omega, List.replicate_succ, List.set_cons_zero, List.take_succ_eq_append_getElem hk]
  simp only [List.map_append, List.map_cons, List.map_nil, List.append_assoc, List.singleton_append]

/-- The marks of a list of n numbers, from k on. -/
def marksI (k n : Nat) : List Int := (List.range n).map fun (i : Nat) => ((k + i : Nat) : Int)
theorem length_marksI (k n : Nat) : (marksI k n).length = n := by simp [marksI]
def markITo (l : List Int) (k i : Nat) : List Int := marksI k i ++ l.drop i
theorem length_markITo (l : List Int) (k i : Nat) (h : i ≤ l.length) : (markITo l k i).length = l.length := by simp [markITo, length_marksI]; omega
theorem markITo_start (l : List Int) (k : Nat) : markITo l k 0 = l := by simp [markITo, marksI]
theorem markITo_end (l : List Int) (k : Nat) : markITo l k l.length = marksI k l.length := by simp [markITo]
theorem markITo_set (l : List Int) (k i : Nat) (h : i < l.length) : (markITo l k i).set i ((k + i : Nat) : Int) = markITo l k (i + 1) := by
  have hl := length_marksI k i
  unfold markITo
  rw [List.set_append_right _ _ (by omega), hl, Nat.sub_self, List.drop_eq_getElem_cons h, List.set_cons_zero]
  simp [marksI, List.range_succ]

end Go.Proofs.YtkanhjafchiikaaDoor.Harn

/- The line through places of chapter 6 as a function of numbers, and lists of numbers in memory. -/
namespace Go.Proofs.YtkanhjafchiikaaDoor.Gf
open Go.RowKit Go.Proofs.YtkanhjafchiikaaDoor.Mem

/-- what the value at place i counts at t, the first k places looked at -/
def wt (xs : List Nat) (t i : Nat) : Nat → Nat
  | 0 => 1
  | k + 1 => if k = i then wt xs t i k else mul (wt xs t i k) (mul (t ^^^ xs.getD k 0) (inv (xs.getD i 0 ^^^ xs.getD k 0)))
def weight (xs : List Nat) (t i : Nat) : Nat := wt xs t i xs.length
theorem wt_lt (xs : List Nat) (t i : Nat) : ∀ k, wt xs t i k < 256
  | 0 => by simp [wt]
  | k + 1 => by
    unfold wt; split
    · exact wt_lt xs t i k
    · exact mul_lt (wt_lt xs t i k)
theorem weight_lt (xs : List Nat) (t i : Nat) : weight xs t i < 256 := wt_lt _ _ _ _
def weights (xs : List Nat) (t k : Nat) : List Nat := (List.range k).map (weight xs t)
theorem weights_len (xs : List Nat) (t k : Nat) : (weights xs t k).length = k := by simp [weights]
theorem weights_succ (xs : List Nat) (t k : Nat) : weights xs t (k + 1) = weights xs t k ++ [weight xs t k] := by simp [weights, List.range_succ]
theorem weights_at (xs : List Nat) (t k i : Nat) (h : i < (weights xs t k).length) : (weights xs t k)[i] = weight xs t i := by simp [weights]
/-- the sum of values, each as often as c says; of places from 0 to k -/
def sumTo (c y : Nat → Nat) : Nat → Nat
  | 0 => 0
  | k + 1 => sumTo c y k ^^^ mul (c k) (y k)
theorem sumTo_lt (c y : Nat → Nat) (hc : ∀ i, c i < 256) : ∀ k, sumTo c y k < 256
  | 0 => by simp [sumTo]
  | k + 1 => xor8 (sumTo_lt c y hc k) (mul_lt (hc k))
def line (xs ys : List Nat) (t : Nat) : Nat := sumTo (weight xs t) (fun i => ys.getD i 0) xs.length
def Els (xs : List Nat) : Prop := ∀ x ∈ xs, x < 256
theorem Els.at {xs : List Nat} (h : Els xs) {j : Nat} (hj : j < xs.length) : xs[j] < 256 := h _ (List.getElem_mem hj)

/-- The slice v reads as the numbers xs, each of kind k. -/
def NumsK (k : IntKind) (W : World) (v : Value) (xs : List Nat) : Prop :=
  ∃ a cap, v = .slice a xs.length cap ∧ ∀ j (h : j < xs.length), ∃ b o, a = some ⟨b, o, none⟩ ∧ W.cell? ⟨b, o + j, none⟩ = some (.int k (xs[j] : Nat))
theorem NumsK.below {k : IntKind} {W W' : World} {v : Value} {l : List Nat} (h : NumsK k W v l) (hb : Below W.heap.size W W') : NumsK k W' v l := by
  obtain ⟨a, cap, hv, hc⟩ := h
  refine ⟨a, cap, hv, fun j hj => ?_⟩
  obtain ⟨b, o, ha, hcell⟩ := hc j hj
  refine ⟨b, o, ha, ?_⟩
  rw [hb.cell (World.block_lt_of_cell? W _ hcell)]
  exact hcell
theorem nums_of_ints {W : World} {v : Value} {l : List Int} (h : Harn.Ints W v l) (h0 : ∀ x ∈ l, 0 ≤ x) : NumsK .i64 W v (l.map Int.toNat) := by
  obtain ⟨a, cap, hv, hc⟩ := h
  refine ⟨a, cap, by simpa using hv, fun j hj => ?_⟩
  have hj2 : j < l.length := by simpa using hj
  obtain ⟨b, o, ha, hcell⟩ := hc j hj2
  refine ⟨b, o, ha, ?_⟩
  rw [hcell]
  have := h0 _ (List.getElem_mem hj2)
  simp only [List.getElem_map]
  congr 2; omega
theorem NumsK.shape {k : IntKind} {W : World} {v : Value} {xs : List Nat} (h : NumsK k W v xs) : ∃ a cap, v = .slice a xs.length cap := ⟨_, _, h.choose_spec.choose_spec.1⟩

/-- The cells of numbers. -/
def ncells (k : IntKind) (xs : List Nat) : List Value := xs.map fun x => .int k (x : Nat)
theorem length_ncells (k : IntKind) (xs : List Nat) : (ncells k xs).length = xs.length := by simp [ncells]
theorem ncells_snoc (k : IntKind) (xs : List Nat) (x : Nat) : ncells k (xs ++ [x]) = ncells k xs ++ [.int k (x : Nat)] := by simp [ncells]
/-- A list of numbers that owns its row, or is nil. -/
def OwnN (k : IntKind) (T : TypeId) (W : World) (base : Nat) (v : Value) (xs : List Nat) : Prop := W.ownsRow base T 1 v xs.length (ncells k xs)
theorem OwnN.nums {k : IntKind} {T : TypeId} {W : World} {base : Nat} {v : Value} {xs : List Nat} (h : OwnN k T W base v xs) : NumsK k W v xs := by
  have h0 := h
  rcases h.2 with ⟨rfl, hn⟩ | ⟨g, cap, cur, rfl, _⟩
  · exact ⟨none, 0, by rw [hn], fun j hj => by omega⟩
  · refine ⟨_, cap, rfl, fun j hj => ⟨g, 0, rfl, ?_⟩⟩
    have := World.ownsRow.cellAt h0 j (by omega)
    rw [Nat.zero_add, this]
    simp [ncells, hj]
theorem OwnN.lt {k : IntKind} {T : TypeId} {W : World} {base : Nat} {v : Value} {xs : List Nat} (h : OwnN k T W base v xs) : ∀ g, v.ownBlock = some g → base ≤ g ∧ g < W.heap.size := World.ownsRow.lt h
theorem OwnN.same {k : IntKind} {T : TypeId} {W W' : World} {base B : Nat} {v : Value} {l : List Nat} (h : OwnN k T W base v l) (hb : ∀ g, v.ownBlock = some g → W'.heap[g]? = W.heap[g]?) (hB : B ≤ base) : OwnN k T W' B v l := by
  obtain ⟨h1, h2⟩ := h
  refine ⟨h1, ?_⟩
  rcases h2 with ⟨rfl, h2⟩ | ⟨g, cap, cur, rfl, e2, e3, e4⟩
  · exact .inl ⟨rfl, h2⟩
  · exact .inr ⟨g, cap, cur, rfl, by omega, (hb g rfl).trans e3, e4⟩
theorem OwnN.below {k : IntKind} {T : TypeId} {W W' : World} {base B : Nat} {v : Value} {l : List Nat} (h : OwnN k T W base v l) (hb : Below W.heap.size W W') (hB : B ≤ base) : OwnN k T W' B v l := h.same (fun g hg => hb.block g (h.lt g hg).2) hB
theorem OwnN.drewN {k : IntKind} {T : TypeId} {W : World} {base : Nat} {v : Value} {l : List Nat} (h : OwnN k T W base v l) (n : Nat) : OwnN k T (W.drewN n) base v l := h
theorem ownN_empty (k : IntKind) (T : TypeId) (w : World) (base : Nat) (h : base ≤ w.heap.size) : OwnN k T (w.alloc (.cells #[] T)) base (.slice (some ⟨w.heap.size, 0, none⟩) 0 0) [] :=
  w.ownsRow_made #[] 0 h (by unfold maxLen; omega) (by simp)

theorem addr_add0 (b j : Nat) : (⟨b, 0, none⟩ : Addr).add j = ⟨b, j, none⟩ := by unfold Addr.add; split <;> simp_all
theorem infoI64' : (Tryd.prog.info? 2).map (fun i => (i.zero, i.size, i.bytes)) = some (some (.int .i64 0), 1, 8) := by kernel_rfl
/-- a call of 'append' whose run is known -/
theorem wp_app1 {P : Program} {w : World} {ops : Array Oper} {rest : List Oper} {o : Oper} {a : Act} {Q : Exit → Act → World → Prop} (hgd : o.guard = none) (s x : Operand) (t : TypeId)
    (ho : o.op = .call { callee := .builtin .append, args := #[s, x], argTypes := #[t, t] }) (v u r : Value) (w' : World) (hs : a.eval s = v) (hx : a.eval x = u)
    (hr : (Builtin.append_ #[t, t] o.type #[v, u]).run P w = .ok r w') (h : wpList P ops Q rest (a.put o.dst r) w') : wpList P ops Q (o :: rest) a w :=
  wpList_plain hgd fun _ hK => by
    unfold Oper.wp execOp
    simp only [ho, resolve, invoke, builtin, Sem.run_bind, Sem.run_pure, Result.andThen_ok, List.map_toArray, List.map_cons, List.map_nil, hs, hx, hr]
    exact hK _ _ h
theorem cell_new (W : World) (v : Value) (T : TypeId) : (W.alloc (.cells #[v] T)).cell? ⟨W.heap.size, 0, none⟩ = some v := by simp
theorem size_new {B : Nat} {W : World} (h : B ≤ W.heap.size) (o : Obj) : B ≤ (W.alloc o).heap.size := by simp; omega
end Go.Proofs.YtkanhjafchiikaaDoor.Gf

/- What the two Seal functions answer, by contracts. -/
namespace Go.Proofs.YtkanhjafchiikaaDoor.Seal
open Go.RowKit Go.Proofs.YtkanhjafchiikaaDoor.Mem Go.Proofs.YtkanhjafchiikaaDoor.Four Go.Proofs.YtkanhjafchiikaaDoor.Crc

/-- The seal of a text of at most 7996 bytes. -/
def sealB (s : ByteArray) : ByteArray := s ++ fourB (crcOf 0 s)

theorem size_sealB (s : ByteArray) : (sealB s).size = s.size + 4 := by simp [sealB, ByteArray.size_append, size_fourB]

set_option maxHeartbeats 400000 in
theorem specSeal_in (s : ByteArray) (w : World) (hs : s.size ≤ 7996) :
    Calls Tryd.prog 34 #[.string s] w fun e w' => e = .returned (.string (sealB s)) ∧ Below w.heap.size w w' := by
  have K1 : Hid (∀ w, Calls Tryd.prog 16 #[.int .i64 0, .string s] w fun e w' => e = .returned (.int .i64 (crcOf 0 s : Nat)) ∧ w' = w) := fun w => l01Crc_in 0 s w (by omega) (by omega)
  have hc := crcOf_lt (x := 0) (by omega) s
  have hz : (fourB (crcOf 0 s)).size ≤ 4 := Nat.le_of_eq (size_fourB _)
  go_enter Tryd.func34, Tryd.ntmps34
  go_wp2_with (first | (go_at_call 16; refine (K1.out _).mono ?_; rintro e w' ⟨rfl, rfl⟩) | (go_at_call 15; refine (l01Four_any _ _ hc).mono ?_; rintro e w' ⟨rfl, hb⟩))
  go_ret
  exact ⟨rfl, hb⟩

set_option maxHeartbeats 400000 in
theorem implSeal_in (s : ByteArray) (w : World) (hs : s.size ≤ 7996) :
    Calls Tryd.prog 21 #[.string s] w fun e w' => e = .returned (.string (sealB s)) ∧ Below w.heap.size w w' := by
  have K1 : Hid (∀ w, Calls Tryd.prog 47 #[.int .i64 0, .string s] w fun e w' => e = .returned (.int .i64 (crcOf 0 s : Nat)) ∧ w' = w) := fun w => crcMore_in 0 s w (by omega) (by omega)
  have hc := crcOf_lt (x := 0) (by omega) s
  have hz := size_fourB (crcOf 0 s)
  have hj : (fourB (crcOf 0 s)).size ≤ 10000000 := by omega
  have hs2 : s.size ≤ 10000000 := by omega
  clear hz
  go_enter Tryd.func21, Tryd.ntmps21
  go_wp2_with (first | (go_at_call 47; refine (K1.out _).mono ?_; rintro e w' ⟨rfl, rfl⟩) | (go_at_call 37; refine (sumText_any _ _ hc).mono ?_; rintro e w' ⟨rfl, hb⟩) | (go_at_call 22; refine (Join.join_any _ _ _ hs2 hj).mono ?_; rintro e w2 ⟨rfl, hb2⟩) | go_in)
  go_ret
  exact ⟨rfl, hb.trans (hb2.mono hb.size)⟩

theorem specSeal_out (s : ByteArray) (w : World) (hs : ¬ s.size ≤ 7996) :
    Calls Tryd.prog 34 #[.string s] w fun e w' => e = .returned (.string ByteArray.empty) ∧ w' = w := by
  go_enter Tryd.func34, Tryd.ntmps34
  go_wp2
  go_ret
  exact ⟨rfl, rfl⟩

theorem implSeal_out (s : ByteArray) (w : World) (hs : ¬ s.size ≤ 7996) :
    Calls Tryd.prog 21 #[.string s] w fun e w' => e = .returned (.string ByteArray.empty) ∧ w' = w := by
  go_enter Tryd.func21, Tryd.ntmps21
  go_wp2
  go_ret
  exact ⟨rfl, rfl⟩
end Go.Proofs.YtkanhjafchiikaaDoor.Seal

/- A disk of the call's own, within a range of blocks; the laws' functions on it. -/
namespace Go.Proofs.YtkanhjafchiikaaDoor.Harn
open Go.RowKit Go.Proofs.YtkanhjafchiikaaDoor.Mem Go.Proofs.YtkanhjafchiikaaDoor.Mark

/-- Of the old blocks those of p alone have turned. -/
structure Only (p : Nat → Prop) (w w' : World) : Prop where
  os : w'.os = w.os
  tape : w'.tape = w.tape
  output : w'.output = w.output
  size : w.heap.size ≤ w'.heap.size
  block : ∀ k, k < w.heap.size → ¬ p k → w'.heap[k]? = w.heap[k]?

theorem Only.refl (p : Nat → Prop) (w : World) : Only p w w := ⟨rfl, rfl, rfl, Nat.le_refl _, fun _ _ _ => rfl⟩
theorem Only.trans {p : Nat → Prop} {a b c : World} (h : Only p a b) (k : Only p b c) : Only p a c :=
  ⟨k.os.trans h.os, k.tape.trans h.tape, k.output.trans h.output, Nat.le_trans h.size k.size, fun i hi hp => (k.block i (Nat.lt_of_lt_of_le hi h.size) hp).trans (h.block i hi hp)⟩
theorem Only.mono {p q : Nat → Prop} {a b : World} (h : Only p a b) (hpq : ∀ k, p k → q k) : Only q a b :=
  ⟨h.os, h.tape, h.output, h.size, fun i hi hq => h.block i hi (fun hp => hq (hpq i hp))⟩
theorem Only.of_below {w w' : World} (p : Nat → Prop) (h : Below w.heap.size w w') : Only p w w' := ⟨h.os, h.tape, h.output, h.size, fun k hk _ => h.block k hk⟩
theorem Only.of_grown {p : Nat → Prop} {w w' : World} {g : Nat} (h : w.grownBy w' (some g)) (hg : p g) : Only p w w' :=
  ⟨h.os, h.tape, h.output, h.size, fun k hk hn => h.block k hk (fun e => hn (by injection e with e; rw [e]; exact hg))⟩
theorem Only.below {p : Nat → Prop} {w0 w w' : World} {B : Nat} (h : Only p w w') (hb : Below B w0 w) (hB : B ≤ w.heap.size) (hp : ∀ k, k < B → ¬ p k) : Below B w0 w' :=
  ⟨h.os.trans hb.os, h.tape.trans hb.tape, h.output.trans hb.output, Nat.le_trans hb.size h.size, fun k hk => (h.block k (Nat.lt_of_lt_of_le hk hB) (hp k hk)).trans (hb.block k hk)⟩
theorem Only.cell {p : Nat → Prop} {w w' : World} (h : Only p w w') {a : Addr} (ha : a.block < w.heap.size) (hp : ¬ p a.block) : w'.cell? a = w.cell? a := by
  unfold World.cell?
  rw [h.block a.block ha hp]
theorem Only.frozen {p : Nat → Prop} {w w' : World} (h : Only p w w') {a : Addr} (ha : a.block < w.heap.size) (hp : ¬ p a.block) : w'.frozen? a = w.frozen? a := by
  unfold World.frozen?
  rw [h.block a.block ha hp]
theorem Only.row {p : Nat → Prop} {w w' : World} (h : Only p w w') {g : Nat} {cs : List Value} {e : TypeId} (hr : HasRow w g cs e) (hp : ¬ p g) : HasRow w' g cs e := by
  have hlt : g < w.heap.size := by
    rcases Nat.lt_or_ge g w.heap.size with hlt | hge
    · exact hlt
    · unfold HasRow at hr; rw [Array.getElem?_eq_none hge] at hr; cases hr
  unfold HasRow
  rw [h.block g hlt hp]
  exact hr
theorem StrsAt.only {p : Nat → Prop} {W W' : World} {g o : Nat} {l : List ByteArray} (h : StrsAt W g o l) (hg : Only p W W') (hn : l.length = 0 ∨ ¬ p g) : StrsAt W' g o l := fun j hj => by
  obtain ⟨h1, h2⟩ := h j hj
  have hlt := World.block_lt_of_cell? W _ h1
  have hp : ¬ p g := by rcases hn with h0 | h0; omega; exact h0
  exact ⟨(hg.cell hlt hp).trans h1, (hg.frozen hlt hp).trans h2⟩
theorem PendsAt.only {p : Nat → Prop} {W W' : World} {g o : Nat} {l : List (Int × ByteArray)} (h : PendsAt W g o l) (hg : Only p W W') (hn : l.length = 0 ∨ ¬ p g) : PendsAt W' g o l := fun j hj => by
  obtain ⟨h1, h2, h3, h4⟩ := h j hj
  have hlt := World.block_lt_of_cell? W _ h1
  have hp : ¬ p g := by rcases hn with h0 | h0; omega; exact h0
  exact ⟨(hg.cell (a := ⟨g, o + j * 2, none⟩) hlt hp).trans h1, (hg.cell (a := ⟨g, o + j * 2 + 1, none⟩) hlt hp).trans h2, (hg.frozen (a := ⟨g, o + j * 2, none⟩) hlt hp).trans h3, (hg.frozen (a := ⟨g, o + j * 2 + 1, none⟩) hlt hp).trans h4⟩
theorem IntsAt.only {p : Nat → Prop} {W W' : World} {g o : Nat} {l : List Int} (h : IntsAt W g o l) (hg : Only p W W') (hn : l.length = 0 ∨ ¬ p g) : IntsAt W' g o l := fun j hj => by
  obtain ⟨h1, h2⟩ := h j hj
  have hlt := World.block_lt_of_cell? W _ h1
  have hp : ¬ p g := by rcases hn with h0 | h0; omega; exact h0
  exact ⟨(hg.cell hlt hp).trans h1, (hg.frozen hlt hp).trans h2⟩

/-- The disk v has the sectors ls and the pending writes lp, each in a row of its own among the blocks from lo to hi. -/
def Own (W : World) (lo hi : Nat) (vs vp : Value) (ls : List ByteArray) (lp : List (Int × ByteArray)) : Prop :=
  ∃ va cs vb cp gs os gp op, vs = .slice va ls.length cs ∧ vp = .slice vb lp.length cp ∧ (ls.length = 0 ∨ (va = some ⟨gs, os, none⟩ ∧ lo ≤ gs ∧ gs < hi)) ∧ StrsAt W gs os ls ∧
    (lp.length = 0 ∨ (vb = some ⟨gp, op, none⟩ ∧ lo ≤ gp ∧ gp < hi)) ∧ PendsAt W gp op lp ∧ (gs ≠ gp ∨ ls.length = 0 ∨ lp.length = 0)

theorem Own.strs {W : World} {lo hi : Nat} {vs vp : Value} {ls : List ByteArray} {lp : List (Int × ByteArray)} (h : Own W lo hi vs vp ls lp) : Strs W vs ls := by
  obtain ⟨va, cs, vb, cp, gs, os, gp, op, rfl, rfl, h1, h2, h3, h4, h5⟩ := h
  refine ⟨va, cs, rfl, fun j hj => ?_⟩
  rcases h1 with h1 | ⟨h1, _, _⟩
  · omega
  · exact ⟨gs, os, h1, (h2 j hj).1⟩
theorem Own.pends {W : World} {lo hi : Nat} {vs vp : Value} {ls : List ByteArray} {lp : List (Int × ByteArray)} (h : Own W lo hi vs vp ls lp) : Pends W vp lp := by
  obtain ⟨va, cs, vb, cp, gs, os, gp, op, rfl, rfl, h1, h2, h3, h4, h5⟩ := h
  refine ⟨vb, cp, rfl, fun j hj => ?_⟩
  rcases h3 with h3 | ⟨h3, _, _⟩
  · omega
  · exact ⟨gp, op, h3, (h4 j hj).1, (h4 j hj).2.1⟩
theorem Own.only {p : Nat → Prop} {W W' : World} {lo hi : Nat} {vs vp : Value} {ls : List ByteArray} {lp : List (Int × ByteArray)} (h : Own W lo hi vs vp ls lp) (hg : Only p W W') (hn : ∀ k, lo ≤ k → k < hi → ¬ p k) : Own W' lo hi vs vp ls lp := by
  obtain ⟨va, cs, vb, cp, gs, os, gp, op, rfl, rfl, h1, h2, h3, h4, h5⟩ := h
  exact ⟨va, cs, vb, cp, gs, os, gp, op, rfl, rfl, h1, h2.only hg (h1.imp id fun h => hn gs h.2.1 h.2.2), h3, h4.only hg (h3.imp id fun h => hn gp h.2.1 h.2.2), h5⟩
theorem Own.below {W W' : World} {lo hi : Nat} {vs vp : Value} {ls : List ByteArray} {lp : List (Int × ByteArray)} (h : Own W lo hi vs vp ls lp) (hb : Below W.heap.size W W') : Own W' lo hi vs vp ls lp :=
  h.only (Only.of_below (fun _ => False) hb) (fun _ _ _ h => h)
theorem Own.wide {W : World} {lo hi lo' hi' : Nat} {vs vp : Value} {ls : List ByteArray} {lp : List (Int × ByteArray)} (h : Own W lo hi vs vp ls lp) (h1 : lo' ≤ lo) (h2 : hi ≤ hi') : Own W lo' hi' vs vp ls lp := by
  obtain ⟨va, cs, vb, cp, gs, os, gp, op, e1, e2, a1, a2, a3, a4, a5⟩ := h
  exact ⟨va, cs, vb, cp, gs, os, gp, op, e1, e2, a1.imp id (fun h => ⟨h.1, by omega, by omega⟩), a2, a3.imp id (fun h => ⟨h.1, by omega, by omega⟩), a4, a5⟩
theorem Own.shape {W : World} {lo hi : Nat} {vs vp : Value} {ls : List ByteArray} {lp : List (Int × ByteArray)} (h : Own W lo hi vs vp ls lp) : ∃ va cs vb cp, vs = .slice va ls.length cs ∧ vp = .slice vb lp.length cp := by
  obtain ⟨va, cs, vb, cp, gs, os, gp, op, e1, e2, _⟩ := h
  exact ⟨va, cs, vb, cp, e1, e2⟩
theorem Own.setCell {W : World} {lo hi : Nat} {vs vp : Value} {ls : List ByteArray} {lp : List (Int × ByteArray)} (h : Own W lo hi vs vp ls lp) {a : Addr} (ha : a.block < lo ∨ hi ≤ a.block) (v : Value) : Own (W.setCell a v) lo hi vs vp ls lp :=
  h.only (p := fun b => b = a.block) ⟨rfl, rfl, rfl, by simp, fun k _ hk => Below.heap_setCell _ _ _ _ hk⟩ (fun k h1 h2 e => by subst e; omega)
theorem own_zero (W : World) (lo hi : Nat) : Own W lo hi (.slice none 0 0) (.slice none 0 0) [] [] :=
  ⟨none, 0, none, 0, 0, 0, 0, 0, rfl, rfl, .inl rfl, fun j hj => absurd hj (by simp), .inl rfl, fun j hj => absurd hj (by simp), .inr (.inl rfl)⟩
theorem own_mk {W : World} {lo hi gs gp cs cp : Nat} {ls : List ByteArray} {lp : List (Int × ByteArray)} (h1 : StrsAt W gs 0 ls) (h2 : PendsAt W gp 0 lp) (a1 : lo ≤ gs) (a2 : gs < hi) (b1 : lo ≤ gp) (b2 : gp < hi) (hne : gs ≠ gp) :
    Own W lo hi (.slice (some ⟨gs, 0, none⟩) ls.length cs) (.slice (some ⟨gp, 0, none⟩) lp.length cp) ls lp :=
  ⟨_, cs, _, cp, gs, 0, gp, 0, rfl, rfl, .inr ⟨rfl, a1, a2⟩, h1, .inr ⟨rfl, b1, b2⟩, h2, .inl hne⟩
theorem own_mk0 {W : World} {lo hi gs cs : Nat} {ls : List ByteArray} (h1 : StrsAt W gs 0 ls) (a1 : lo ≤ gs) (a2 : gs < hi) :
    Own W lo hi (.slice (some ⟨gs, 0, none⟩) ls.length cs) (.slice none 0 0) ls [] :=
  ⟨_, cs, none, 0, gs, 0, 0, 0, rfl, rfl, .inr ⟨rfl, a1, a2⟩, h1, .inl rfl, fun j hj => absurd hj (by simp), .inr (.inr rfl)⟩

/-! ### marks -/
end Go.Proofs.YtkanhjafchiikaaDoor.Harn

/- 'append([]T{}, xs...)': a copy of a list of texts, of pending writes, in a block of its own. -/
namespace Go.Proofs.YtkanhjafchiikaaDoor.Harn
open Go.RowKit Go.Proofs.YtkanhjafchiikaaDoor.Mem Go.Proofs.YtkanhjafchiikaaDoor.Mark

theorem bel_grown {W W1 : World} (h : W.grownBy W1 none) : Below W.heap.size W W1 := ⟨h.os, h.tape, h.output, h.size, fun k hk => h.block k hk (by simp)⟩

/-- A run of 'append' of at least one element behind an empty slice without room. -/
theorem app_new {P : Program} (t ty e : TypeId) (z : Value) (size bytes : Nat) (ht : P.underlying t = some (.slice e)) (hi : (P.info? e).map (fun i => (i.zero, i.size, i.bytes)) = some (some z, size, bytes)) (hzs : z.cells.size = size) (hsz : 0 < size) (b0 : Addr)
    (a : Addr) (m c : Nat) (news : List Value) (w : World) (hl : news.length = m * size) (hnews : ∀ j u, news[j]? = some u → w.cell? (a.add j) = some u) (hm : 0 < m) (h63 : m ≤ maxLen) (hbytes : m * bytes ≤ 140737488355328) :
    ∃ g cap W1, (Builtin.append_ #[t, t] ty #[.slice (some b0) 0 0, .slice (some a) m c]).run P w = .ok (.slice (some ⟨g, 0, none⟩) m cap) W1 ∧ w.heap.size ≤ g ∧ g < W1.heap.size ∧ Below w.heap.size w W1 ∧ (∀ j u, news[j]? = some u → W1.cell? ⟨g, j, none⟩ = some u) ∧ (∀ j, W1.frozen? ⟨g, j, none⟩ = false) ∧ W1.ownsRow w.heap.size e size (.slice (some ⟨g, 0, none⟩) m cap) m news := by
  obtain ⟨i, hi0, hz0, hz1, hz2⟩ := info_parts hi
  obtain ⟨v', W1, hr, hown, hgr⟩ := run_append_arg_grows (P := P) w t ty e i z size bytes ht hi0 hz0 hz1 hz2 hzs hsz b0 0 0 [] (by simp) (by simp) a m c news hl hnews (by omega) (by omega) (by simpa using hbytes)
  rw [Nat.zero_add, List.nil_append] at hown
  have hown0 := hown
  rcases hown.2 with ⟨_, h0⟩ | ⟨g, cap, cur, rfl, hb, hg, h1, h2, h3, h4⟩
  · omega
  · refine ⟨g, cap, W1, hr, hb, ?_, bel_grown hgr, fun j u hu => ?_, fun j => ?_, hown0⟩
    · rcases Nat.lt_or_ge g W1.heap.size with hlt | hge
      · exact hlt
      · rw [Array.getElem?_eq_none hge] at hg; cases hg
    · rw [cell_of_row W1 g j cur e (0, 0) hg]
      have hj : j < news.length := by
        rcases Nat.lt_or_ge j news.length with h | h
        · exact h
        · rw [List.getElem?_eq_none h] at hu; cases hu
      rw [← h4, List.getElem?_take_of_lt (by omega)] at hu
      simpa using hu
    · simp [World.frozen?, hg]

theorem app_none {P : Program} (t ty e : TypeId) (z : Value) (size bytes : Nat) (ht : P.underlying t = some (.slice e)) (hi : (P.info? e).map (fun i => (i.zero, i.size, i.bytes)) = some (some z, size, bytes)) (b0 : Addr) (a : Option Addr) (c : Nat) (w : World) :
    (Builtin.append_ #[t, t] ty #[.slice (some b0) 0 0, .slice a 0 c]).run P w = .ok (.slice (some b0) 0 0) w := by
  obtain ⟨i, hi0, hz0, hz1, hz2⟩ := info_parts hi
  cases a <;> simp [Builtin.append_, run_underlying ht, sizeOf, typeInfo, hi0, Builtin.lenOf, Builtin.firstCells, storeCells, loadCells, loadCellsFrom]

theorem app_strs (ty : TypeId) (g0 : Nat) (v : Value) (ls : List ByteArray) (W : World) (h : Strs W v ls) (hn : ls.length ≤ 1100000) (hg0 : g0 < W.heap.size) :
    ∃ g cap W1, (Builtin.append_ #[55, 55] ty #[.slice (some ⟨g0, 0, none⟩) 0 0, v]).run Tryd.prog W = .ok (.slice (some ⟨g, 0, none⟩) ls.length cap) W1 ∧ StrsAt W1 g 0 ls ∧ (g = g0 ∨ W.heap.size ≤ g) ∧ g < W1.heap.size ∧ Below W.heap.size W W1 := by
  obtain ⟨a, c, rfl, hc⟩ := h
  by_cases h0 : ls.length = 0
  · have e : ls = [] := List.length_eq_zero_iff.1 h0
    subst e
    exact ⟨g0, 0, W, app_none _ ty _ _ _ _ underStrs infoStr _ a c W, fun j hj => absurd hj (by simp), .inl rfl, hg0, Below.refl _ _⟩
  · obtain ⟨b, o, rfl, _⟩ := hc 0 (by omega)
    obtain ⟨g, cap, W1, hr, h1, h2, h3, h4, h5, _⟩ := app_new (P := Tryd.prog) 55 ty 9 (.string ByteArray.empty) 1 16 underStrs infoStr rfl (by omega) ⟨g0, 0, none⟩ ⟨b, o, none⟩ ls.length c (ls.map Value.string) W (by simp) (fun j u hu => by
      rw [List.getElem?_map] at hu
      cases e : ls[j]? with
      | none => rw [e] at hu; cases hu
      | some t =>
        rw [e] at hu
        obtain ⟨hj, ht⟩ := List.getElem?_eq_some_iff.1 e
        obtain ⟨b', o', hbo, hcell⟩ := hc j hj
        injection hbo with hbo
        injection hbo with e1 e2 _
        subst e1 e2
        have hadd : (⟨b, o, none⟩ : Addr).add j = ⟨b, o + j, none⟩ := by unfold Addr.add; split <;> simp_all
        rw [hadd, hcell, ht]
        simpa using hu) (by omega) (by unfold maxLen; omega) (by omega)
    exact ⟨g, cap, W1, hr, fun j hj => ⟨by rw [Nat.zero_add]; exact h4 j _ (by simp [hj]), by rw [Nat.zero_add]; exact h5 j⟩, .inr h1, h2, h3⟩

/-- The cells of a list of pending writes. -/
def pcells : List (Int × ByteArray) → List Value
  | [] => []
  | y :: l => .int .i64 y.1 :: .string y.2 :: pcells l
theorem length_pcells (l : List (Int × ByteArray)) : (pcells l).length = l.length * 2 := by
  induction l with
  | nil => rfl
  | cons y l ih => simp [pcells, ih]; omega
theorem pcells_at (l : List (Int × ByteArray)) (j : Nat) (h : j < l.length) : (pcells l)[j * 2]? = some (.int .i64 l[j].1) ∧ (pcells l)[j * 2 + 1]? = some (.string l[j].2) := by
  induction l generalizing j with
  | nil => simp at h
  | cons y l ih =>
    cases j with
    | zero => simp [pcells]
    | succ j =>
      have := ih j (by simpa using h)
      rw [show (j + 1) * 2 = j * 2 + 1 + 1 by omega]
      simpa [pcells] using this

/-- An 'append' whose run is known, at a step of a region that draws its order. -/
theorem step_app {P : Program} {w : World} {ops : Array Oper} {o : Oper} {a : Act} {K : Act → World → Prop} {Q : Exit → Act → World → Prop} {E : Prop} (hgd : o.guard = none) (s x : Operand) (t : TypeId)
    (ho : o.op = .call { callee := .builtin .append, args := #[s, x], argTypes := #[t, t] }) (v u r : Value) (w' : World) (hs : a.eval s = v) (hx : a.eval x = u)
    (hr : (Builtin.append_ #[t, t] o.type #[v, u]).run P w = .ok r w') (h : K (a.put o.dst r) w') :
    if Region.wanted o (yielded ops a.tmps) = true then Oper.wp P o a w K Q else E := by
  have hw : Region.wanted o (yielded ops a.tmps) = true := by simp [Region.wanted, hgd]
  rw [if_pos hw]
  unfold Oper.wp execOp
  simp only [ho, resolve, invoke, builtin, Sem.run_bind, Sem.run_pure, Result.andThen_ok, List.map_toArray, List.map_cons, List.map_nil, hs, hx, hr]
  exact h
end Go.Proofs.YtkanhjafchiikaaDoor.Harn

/- A list of values of one cell each that the call itself appends to; texts. -/
namespace Go.Proofs.YtkanhjafchiikaaDoor.Gf
open Go.RowKit Go.Proofs.YtkanhjafchiikaaDoor.Mem Go.Proofs.YtkanhjafchiikaaDoor.Harn

def OwnV (T : TypeId) (W : World) (base : Nat) (v : Value) (cs : List Value) : Prop := W.ownsRow base T 1 v cs.length cs
theorem OwnV.lt {T : TypeId} {W : World} {base : Nat} {v : Value} {cs : List Value} (h : OwnV T W base v cs) : ∀ g, v.ownBlock = some g → base ≤ g ∧ g < W.heap.size := World.ownsRow.lt h
theorem OwnV.same {T : TypeId} {W W' : World} {base B : Nat} {v : Value} {l : List Value} (h : OwnV T W base v l) (hb : ∀ g, v.ownBlock = some g → W'.heap[g]? = W.heap[g]?) (hB : B ≤ base) : OwnV T W' B v l := by
  obtain ⟨h1, h2⟩ := h
  refine ⟨h1, ?_⟩
  rcases h2 with ⟨rfl, h2⟩ | ⟨g, cap, cur, rfl, e2, e3, e4⟩
  · exact .inl ⟨rfl, h2⟩
  · exact .inr ⟨g, cap, cur, rfl, by omega, (hb g rfl).trans e3, e4⟩
theorem OwnV.below {T : TypeId} {W W' : World} {base B : Nat} {v : Value} {l : List Value} (h : OwnV T W base v l) (hb : Below W.heap.size W W') (hB : B ≤ base) : OwnV T W' B v l := h.same (fun g hg => hb.block g (h.lt g hg).2) hB
theorem ownV_empty (T : TypeId) (w : World) (base : Nat) (h : base ≤ w.heap.size) : OwnV T (w.alloc (.cells #[] T)) base (.slice (some ⟨w.heap.size, 0, none⟩) 0 0) [] :=
  w.ownsRow_made #[] 0 h (by unfold maxLen; omega) (by simp)
theorem OwnV.cells {T : TypeId} {W : World} {base : Nat} {v : Value} {cs : List Value} (h : OwnV T W base v cs) : ∃ a cap, v = .slice a cs.length cap ∧ cs.length ≤ cap ∧ ∀ j (_ : j < cs.length), ∃ g, a = some ⟨g, 0, none⟩ ∧ W.cell? ⟨g, j, none⟩ = cs[j]? ∧ W.frozen? ⟨g, j, none⟩ = false := by
  have h0 := h
  rcases h.2 with ⟨rfl, hn⟩ | ⟨g, cap, cur, rfl, _, _, e3, e4, _⟩
  · exact ⟨none, 0, by rw [hn], by omega, fun j hj => by omega⟩
  · refine ⟨_, cap, rfl, by omega, fun j hj => ⟨g, rfl, World.ownsRow.cellAt h0 j (by omega), World.ownsRow.frozenAt h0 _⟩⟩

theorem app_val {P : Program} (t ty T : TypeId) (z : Value) (bytes : Nat) (ht : P.underlying t = some (.slice T)) (hi : (P.info? T).map (fun i => (i.zero, i.size, i.bytes)) = some (some z, 1, bytes)) (hzs : z.cells.size = 1) (hby : bytes ≤ 64) (base b : Nat) (v : Value) (cs : List Value) (u : Value) (W : World) (h : OwnV T W base v cs) (hbase : base ≤ W.heap.size) (h0 : W.cell? ⟨b, 0, none⟩ = some u) (h1 : u.oneCell' = true) (hn : cs.length ≤ 1100000) :
    ∃ g' cap W1, (Builtin.append_ #[t, t] ty #[v, .slice (some ⟨b, 0, none⟩) 1 1]).run P W = .ok (.slice (some ⟨g', 0, none⟩) (cs.length + 1) cap) W1 ∧ OwnV T W1 base (.slice (some ⟨g', 0, none⟩) (cs.length + 1) cap) (cs ++ [u]) ∧ (v.ownBlock = some g' ∨ g' = W.heap.size) ∧ g' < W1.heap.size ∧ W.grownBy W1 v.ownBlock := by
  obtain ⟨i, hi0, hz0, hz1, hz2⟩ := info_parts hi
  obtain ⟨g', cap, W1, hr, hown, hgr, hat, hlt⟩ := run_append_lies (P := P) W t ty base T i z 1 bytes ht hi0 hz0 hz1 hz2 hzs (by omega) v cs.length cs h ⟨b, 0, none⟩ 1 1 [u] rfl (fun j x hx => by
    rw [addr_add0]
    rcases j with _ | j
    · simp at hx; rw [h0, hx]
    · simp at hx) (by simp [h1]) (by omega) (by unfold maxLen; omega) (by
      have : (cs.length + 1) * bytes ≤ 1100001 * 64 := Nat.mul_le_mul (by omega) hby
      omega) hbase W.heap.size rfl
  exact ⟨g', cap, W1, hr, by unfold OwnV; simpa using hown, hat, hlt, hgr⟩
theorem wp_val {P : Program} {w : World} {ops : Array Oper} {rest : List Oper} {o : Oper} {a : Act} {Q : Exit → Act → World → Prop} (hgd : o.guard = none) (s x : Operand) (t T : TypeId) (z : Value) (bytes : Nat)
    (ho : o.op = .call { callee := .builtin .append, args := #[s, x], argTypes := #[t, t] }) (ht : P.underlying t = some (.slice T)) (hi : (P.info? T).map (fun i => (i.zero, i.size, i.bytes)) = some (some z, 1, bytes)) (hzs : z.cells.size = 1) (hby : bytes ≤ 64) (base b : Nat) (v : Value) (cs : List Value) (y : Value) (hs : a.eval s = v) (hx : a.eval x = .slice (some ⟨b, 0, none⟩) 1 1)
    (h : OwnV T w base v cs) (hbase : base ≤ w.heap.size) (h0 : w.cell? ⟨b, 0, none⟩ = some y) (h1 : y.oneCell' = true) (hn : cs.length ≤ 1100000)
    (hK : ∀ g cap w', OwnV T w' base (.slice (some ⟨g, 0, none⟩) (cs.length + 1) cap) (cs ++ [y]) → Below base w w' → w.heap.size ≤ w'.heap.size → wpList P ops Q rest (a.put o.dst (.slice (some ⟨g, 0, none⟩) (cs.length + 1) cap)) w') : wpList P ops Q (o :: rest) a w := by
  obtain ⟨g', cap, w', hr, a1, _, _, a4⟩ := app_val t o.type T z bytes ht hi hzs hby base b v cs y w h hbase h0 h1 hn
  have hb := (Below.refl base w).grown a4 hbase (fun j hj => (World.ownsRow.lt h j hj).1)
  exact wp_app1 hgd s x _ ho _ _ _ w' hs hx hr (hK g' cap w' a1 hb hb.size)

/-- A list of texts that owns its row, or is nil. -/
def OwnS (W : World) (base : Nat) (v : Value) (ls : List ByteArray) : Prop := OwnV 9 W base v (ls.map Value.string)
theorem OwnS.strs {W : World} {base : Nat} {v : Value} {ls : List ByteArray} (h : OwnS W base v ls) : Strs W v ls := by
  obtain ⟨a, cap, rfl, _, hc⟩ := OwnV.cells h
  have hl : (ls.map Value.string).length = ls.length := by simp
  refine ⟨a, cap, by rw [hl], fun j hj => ?_⟩
  obtain ⟨g, rfl, c, _⟩ := hc j (by omega)
  exact ⟨g, 0, rfl, by rw [Nat.zero_add, c]; simp [hj]⟩
theorem wp_str {w : World} {ops : Array Oper} {rest : List Oper} {o : Oper} {a : Act} {Q : Exit → Act → World → Prop} (hgd : o.guard = none) (s x : Operand)
    (ho : o.op = .call { callee := .builtin .append, args := #[s, x], argTypes := #[55, 55] }) (base b : Nat) (v : Value) (ls : List ByteArray) (y : ByteArray) (hs : a.eval s = v) (hx : a.eval x = .slice (some ⟨b, 0, none⟩) 1 1)
    (h : OwnS w base v ls) (hbase : base ≤ w.heap.size) (h0 : w.cell? ⟨b, 0, none⟩ = some (.string y)) (hn : ls.length ≤ 1100000)
    (hK : ∀ g cap w', OwnS w' base (.slice (some ⟨g, 0, none⟩) (ls.length + 1) cap) (ls ++ [y]) → Below base w w' → w.heap.size ≤ w'.heap.size → wpList Tryd.prog ops Q rest (a.put o.dst (.slice (some ⟨g, 0, none⟩) (ls.length + 1) cap)) w') : wpList Tryd.prog ops Q (o :: rest) a w :=
  wp_val hgd s x _ _ _ 16 ho underStrs infoStr rfl (by omega) base b v (ls.map Value.string) (.string y) hs hx h hbase h0 rfl (by simpa using hn) (fun g cap w' h1 h2 h3 => by
    have := hK g cap w' (by unfold OwnS; rw [List.map_append]; simpa using h1) h2 h3
    simpa using this)
theorem OwnS.below {W W' : World} {base B : Nat} {v : Value} {l : List ByteArray} (h : OwnS W base v l) (hb : Below W.heap.size W W') (hB : B ≤ base) : OwnS W' B v l := OwnV.below h hb hB
theorem OwnS.alloc {W : World} {base : Nat} {v : Value} {l : List ByteArray} (h : OwnS W base v l) (o : Obj) : OwnS (W.alloc o) base v l := OwnS.below h ((Below.refl _ _).alloc (Nat.le_refl _) _) (Nat.le_refl _)
theorem OwnV.alloc {T : TypeId} {W : World} {base : Nat} {v : Value} {l : List Value} (h : OwnV T W base v l) (o : Obj) : OwnV T (W.alloc o) base v l := OwnV.below h ((Below.refl _ _).alloc (Nat.le_refl _) _) (Nat.le_refl _)
end Go.Proofs.YtkanhjafchiikaaDoor.Gf

/- 'append(b, s...)' of a text to bytes of the call's own, and the text of these. -/
namespace Go.Proofs.YtkanhjafchiikaaDoor.Disk
open Go.RowKit Go.Proofs.YtkanhjafchiikaaDoor.Mem

theorem infoB : (Tryd.prog.info? 5).map (fun i => (i.zero, i.size, i.bytes)) = some (some (.int .u8 0), 1, 1) := by kernel_rfl
theorem underB : Tryd.prog.underlying 59 = some (.slice 5) := by kernel_rfl
theorem underTx : Tryd.prog.underlying 9 = some .string := by kernel_rfl
theorem underU8 : Tryd.prog.underlying 5 = some (.int .u8) := by kernel_rfl
theorem ownB_shape {W : World} {base : Nat} {e : TypeId} {v : Value} {l : List UInt8} (h : OwnsB W base e v l) (hv : v ≠ .slice none 0 0) : ∃ g cap, v = .slice (some ⟨g, 0, none⟩) l.length cap ∧ base ≤ g ∧ g < W.heap.size := by
  have hlt := World.ownsRow.lt h
  rcases h.2 with ⟨h0, _⟩ | ⟨g, cap, cur, rfl, _⟩
  · exact absurd h0 hv
  · exact ⟨g, cap, rfl, hlt g rfl⟩
theorem ownB_same {W W' : World} {base B : Nat} {e : TypeId} {v : Value} {l : List UInt8} (h : OwnsB W base e v l) (hb : ∀ g, v.ownBlock = some g → W'.heap[g]? = W.heap[g]?) (hB : B ≤ base) : OwnsB W' B e v l := by
  obtain ⟨h1, h2⟩ := h
  refine ⟨h1, ?_⟩
  rcases h2 with ⟨rfl, h2⟩ | ⟨g, cap, cur, rfl, e2, e3, e4⟩
  · exact .inl ⟨rfl, h2⟩
  · exact .inr ⟨g, cap, cur, rfl, by omega, (hb g rfl).trans e3, e4⟩
theorem ownB_below {W W' : World} {base : Nat} {e : TypeId} {v : Value} {l : List UInt8} (h : OwnsB W base e v l) (hb : Below W.heap.size W W') : OwnsB W' base e v l := ownB_same h (fun g hg => hb.block g (World.ownsRow.lt h g hg).2) (Nat.le_refl _)
/-- 'string(b)' of such a slice. -/
theorem ownB_text {W : World} {base : Nat} {v : Value} {l : List UInt8} (h : OwnsB W base 5 v l) (hv : v ≠ .slice none 0 0) : (convert 59 9 v).run Tryd.prog W = .ok (.string ⟨l.toArray⟩) W := by
  have hc := fun g hg => World.ownsRow.cells h (g := g) hg
  rcases h.2 with ⟨h0, _⟩ | ⟨g, cap, cur, rfl, _⟩
  · exact absurd h0 hv
  · refine run_convert_bytes_back W 59 9 5 _ cap l underB underU8 underTx ?_
    intro j hj
    refine hc g rfl j _ ?_
    simp [Lib.byteCells, hj]
theorem wp_app_text {w : World} {ops : Array Oper} {rest : List Oper} {o : Oper} {a : Act} {Q : Exit → Act → World → Prop} (hgd : o.guard = none) (sl x : Operand)
    (ho : o.op = .call { callee := .builtin .append, args := #[sl, x], argTypes := #[59, 9] }) (base : Nat) (v : Value) (l : List UInt8) (s : ByteArray) (hs : a.eval sl = v) (hx : a.eval x = .string s)
    (hown : OwnsB w base 5 v l) (hv : v ≠ .slice none 0 0) (hn : l.length + s.size ≤ 1000000) (hbase : base ≤ w.heap.size)
    (h : ∀ v' w', OwnsB w' base 5 v' (l ++ s.data.toList) → v' ≠ .slice none 0 0 → Below base w w' → (∀ k, k < w.heap.size → some k ≠ v.ownBlock → w'.heap[k]? = w.heap[k]?) → w.heap.size ≤ w'.heap.size → wpList Tryd.prog ops Q rest (a.put o.dst v') w') : wpList Tryd.prog ops Q (o :: rest) a w := by
  obtain ⟨i, hi, hz0, hz1, hz2⟩ := info_parts infoB
  refine Lib.wpList_append_own_string w hgd sl x _ _ ho base 5 i underB underTx hi hz0 hz1 hz2 v l.length (Lib.byteCells l) hs hown s hx (by unfold maxLen; omega) (by omega) hbase ?_
  intro v' w' h1 h2 h3
  refine h v' w' ?_ (fun e => hv (h3.1 e).1) ?_ (fun k hk hne => h2.block k hk hne) h2.size
  · unfold OwnsB
    have e1 : (l ++ s.data.toList).length = l.length + s.size := by rw [List.length_append]; rfl
    have e2 : Lib.byteCells (l ++ s.data.toList) = Lib.byteCells l ++ Lib.strCells s := by simp [Lib.byteCells, Lib.strCells]
    rw [e1, e2]
    exact h1
  · exact (Below.refl base w).grown h2 hbase (fun k hk => (World.ownsRow.lt hown k hk).1)
/-- A piece of a text. -/
theorem slice_text (tx : ByteArray) (a b : Nat) (ha : a ≤ b) (hb : b ≤ tx.size) (i j : Int) (hi : i = a) (hj : j = b) (W : World) : (Instr.slice 9 (.string tx) (some (.int .i64 i)) (some (.int .i64 j)) none).run Tryd.prog W = .ok (.string (tx.extract a b)) W := by
  subst hi hj
  simp [Instr.slice, Instr.sliceBounds, run_underlying underTx, go_sem, ha, hb]
end Go.Proofs.YtkanhjafchiikaaDoor.Disk
