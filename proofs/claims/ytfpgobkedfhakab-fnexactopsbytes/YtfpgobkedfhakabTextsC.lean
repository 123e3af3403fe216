/- Laws that the proof rests on, put together: What the multiplying functions of the program and of the model answer, by contracts. What GfMul, GfInv and GfDiv of the program and of the model answer, whatever they are given. The line through places of chapter 6 as a function of numbers, and lists of numbers in memory. A list of values of one cell each that the call itself appends to; texts. Lists of structs, of n cells each, in memory: for any struct. What the model's weights answer. What Interp asks and answers, as a function of lists of numbers. What the program's lineRight answers. What the program's closure of weights answers, and sums of pieces as lists. Spread as a function of lists of numbers and of texts. A frame as eight cells, and when it is right. What the two PutText functions answer, by contracts. The bytes of a frame as lists of texts; texts put together. -/
import Derived.Test.YtfpgobkedfhakabRows
import Derived.Test.YtfpgobkedfhakabGfPure
import Derived.WalkKit
import Derived.Below
import Derived.Laws.ShiftsVarLaws
import Derived.WalkSpells
import Derived.Deep.RegionWith
import Derived.Test.YtfpgobkedfhakabTextsB
import Derived.Deep.AppendLies
import Derived.ArgAppend
import Derived.Test.YtfpgobkedfhakabTextsA
import Derived.Deep.RegionHeld3
import Derived.Test.YtfpgobkedfhakabPutNum
/- What the multiplying functions of the program and of the model answer, by contracts. -/
namespace Go.Proofs.Ytfpgobkedfhakab.Gf
open Go.RowKit

theorem ret_int {k : IntKind} {a b : Int} (h : a = b) : Ending.returned (.int k a) = .returned (.int k b) := by rw [h]
theorem val_int {k : IntKind} {a b : Int} (h : a = b) : Value.int k a = .int k b := by rw [h]

theorem xor64 {a b : Nat} (ha : a < 65536) (hb : b < 65536) : bits .xor .i64 (a : Int) (b : Int) = ((a ^^^ b : Nat) : Int) := by
  have hx : a ^^^ b < 2 ^ 16 := Nat.xor_lt_two_pow (by omega) (by omega)
  show IntKind.i64.wrap ((BitVec.ofInt 64 (a : Int) ^^^ BitVec.ofInt 64 (b : Int)).toNat : Int) = _
  rw [BitVec.toNat_xor, ofInt_u64 a (by omega), ofInt_u64 b (by omega), IntKind.wrap_i64]
  omega
theorem and1 {a : Nat} (ha : a < 65536) : bits .and .i64 (a : Int) 1 = ((a % 2 : Nat) : Int) := by
  show IntKind.i64.wrap ((BitVec.ofInt 64 (a : Int) &&& BitVec.ofInt 64 1).toNat : Int) = _
  have h1 : (BitVec.ofInt 64 1).toNat = 1 := by decide
  rw [BitVec.toNat_and, ofInt_u64 a (by omega), h1, Nat.and_one_is_mod, IntKind.wrap_i64]
  omega

/-- GfMul, whatever it is given -/
def el (a : Int) : Bool := decide (0 ≤ a ∧ a ≤ 255)
def mulZ (a b : Int) : Int := if el a && el b then (mul a.toNat b.toNat : Nat) else 0

theorem proTo_lt {a : Nat} (ha : a < 256) (b : Nat) : ∀ k, k ≤ 8 → proTo k a b < 65536
  | 0, _ => by simp [proTo]
  | k + 1, h => by
    unfold proTo
    refine Nat.xor_lt_two_pow (n := 16) (proTo_lt ha b k (by omega)) ?_
    split
    · rw [Nat.shiftLeft_eq]
      have h2 : (2 : Nat) ^ k ≤ 2 ^ 7 := Nat.pow_le_pow_right (by omega) (by omega)
      calc a * 2 ^ k ≤ 255 * 2 ^ 7 := Nat.mul_le_mul (by omega) h2
        _ < 2 ^ 16 := by decide
    · decide

theorem shr_test (b k : Nat) (hb : b < 65536) (h : b.testBit k = true) : (bits .and .i64 ((b : Int) / 2 ^ k) 1 == 1) = true := by
  have h2 : ((b : Int) / 2 ^ k) = ((b / 2 ^ k : Nat) : Int) := by simp
  rw [h2, and1 (Nat.lt_of_le_of_lt (Nat.div_le_self _ _) hb)]
  rw [Nat.testBit_eq_decide_div_mod_eq] at h
  simp at h
  rw [h]; rfl
theorem shr_test' (b k : Nat) (hb : b < 65536) (h : ¬ b.testBit k = true) : (bits .and .i64 ((b : Int) / 2 ^ k) 1 == 1) = false := by
  have h2 : ((b : Int) / 2 ^ k) = ((b / 2 ^ k : Nat) : Int) := by simp
  rw [h2, and1 (Nat.lt_of_le_of_lt (Nat.div_le_self _ _) hb)]
  rw [Nat.testBit_eq_decide_div_mod_eq] at h
  simp at h
  rw [beq_eq_false_iff_ne]; omega

theorem wrap64_small {a : Int} (h : 0 ≤ a) (h2 : a < 65536) : wrap64 a = a := by unfold wrap64; omega
theorem cast_shl (a k : Nat) : ((a * 2 ^ k : Nat) : Int) = (a : Int) * 2 ^ k := by rw [Int.natCast_mul, Int.natCast_pow]; rfl
theorem shl_lt (a k : Nat) (ha : a < 256) (hk : k < 8) : (a : Int) * 2 ^ k < 65536 := by
  have h2 : (2 : Nat) ^ k ≤ 2 ^ 7 := Nat.pow_le_pow_right (by omega) (by omega)
  have h : a * 2 ^ k ≤ 255 * 2 ^ 7 := Nat.mul_le_mul (by omega) h2
  have h' : ((a * 2 ^ k : Nat) : Int) ≤ ((255 * 2 ^ 7 : Nat) : Int) := Int.ofNat_le.mpr h
  have h3 := cast_shl a k
  rw [← h3]; omega
theorem shl_ge (a k : Nat) : 0 ≤ (a : Int) * 2 ^ k := by
  have h3 := cast_shl a k
  rw [← h3]; omega
theorem pro_step {a b k : Nat} (ha : a < 256) (hx : proTo k a b < 65536) (hk : k < 8) (e : b.testBit k = true) : bits .xor .i64 ((proTo k a b : Nat) : Int) (wrap64 ((a : Int) * 2 ^ k)) = ((proTo (k + 1) a b : Nat) : Int) := by
  have h2 : (a : Int) * 2 ^ k = ((a <<< k : Nat) : Int) := by rw [Nat.shiftLeft_eq]; exact (cast_shl a k).symm
  have hs1 := shl_lt a k ha hk
  rw [h2] at hs1 ⊢
  rw [wrap64_small (Int.natCast_nonneg _) (by omega), xor64 hx (by omega), proTo, if_pos e]
theorem red_ge (k : Nat) : 0 ≤ (285 : Int) * 2 ^ k := shl_ge 285 k
theorem red_lt (k : Nat) (hk : k < 7) : (285 : Int) * 2 ^ k < 65536 := by
  have h2 : (2 : Nat) ^ k ≤ 2 ^ 6 := Nat.pow_le_pow_right (by omega) (by omega)
  have h : 285 * 2 ^ k ≤ 285 * 2 ^ 6 := Nat.mul_le_mul (by omega) h2
  have h' : ((285 * 2 ^ k : Nat) : Int) ≤ ((285 * 2 ^ 6 : Nat) : Int) := Int.ofNat_le.mpr h
  have h3 : ((285 * 2 ^ k : Nat) : Int) = (285 : Int) * 2 ^ k := cast_shl 285 k
  rw [← h3]; omega
theorem red_step {q k : Nat} (hq : q < 65536) (hk : k < 7) (e : q.testBit (8 + k) = true) : bits .xor .i64 (q : Int) (wrap64 ((285 : Int) * 2 ^ k)) = ((redAt k q : Nat) : Int) := by
  have h2 : (285 : Int) * (2 : Int) ^ k = ((285 <<< k : Nat) : Int) := by rw [Nat.shiftLeft_eq]; exact (cast_shl 285 k).symm
  have hs1 := red_lt k hk
  rw [h2] at hs1 ⊢
  rw [wrap64_small (Int.natCast_nonneg _) (by omega), xor64 hq (by omega), redAt, if_pos e]
theorem red_no {q k : Nat} (e : ¬ q.testBit (8 + k) = true) : redAt k q = q := by rw [redAt, if_neg e]; simp
theorem redAt_lt {q k : Nat} (hq : q < 65536) (hk : k < 7) : redAt k q < 65536 := by
  refine Nat.xor_lt_two_pow (n := 16) hq ?_
  split
  · rw [Nat.shiftLeft_eq]; have := red_lt k hk
    have h3 : ((285 * 2 ^ k : Nat) : Int) = (285 : Int) * 2 ^ k := cast_shl 285 k
    rw [← h3] at this; omega
  · decide

theorem xt_no {a : Nat} (h : a < 128) : xt a = 2 * a := by
  have : a.testBit 7 = false := Nat.testBit_lt_two_pow (Nat.lt_of_lt_of_le h (by decide))
  simp [xt, this]
theorem xt_yes {a : Nat} (h : a < 256) (h2 : ¬ a < 128) : xt a = (2 * a) ^^^ 285 := by
  have : ∀ a, a < 256 → ¬ a < 128 → a.testBit 7 = true := by decide +kernel
  simp [xt, this a h h2]
theorem mulTo_zero : ∀ k a, mulTo k a 0 = 0 := fun k a => lin_of0 (lin_mulTo_right k a)

/-- a round of the model's loop -/
def MulRel (z n x y : Nat) : Prop := ∃ k, y < 2 ^ k ∧ n < 256 ∧ x < 256 ∧ n ^^^ mulTo k x y = z
theorem mulRel_start {a b : Nat} (ha : a < 256) (hb : b < 256) : MulRel (mul a b) 0 a b := ⟨8, hb, by omega, ha, by simp [mul]⟩
theorem mulRel_end {z n x : Nat} (h : MulRel z n x 0) : n = z := by
  obtain ⟨k, _, _, _, h⟩ := h
  rw [mulTo_zero] at h; simpa using h
theorem mulRel_lt {z n x y : Nat} (h : MulRel z n x y) : n < 256 ∧ x < 256 := ⟨h.choose_spec.2.1, h.choose_spec.2.2.1⟩
theorem mulRel_yes {z n x y : Nat} (h : MulRel z n x y) (e : y % 2 = 1) : MulRel z (n ^^^ x) (xt x) (y / 2) := by
  obtain ⟨k, h1, h2, h3, h4⟩ := h
  obtain ⟨j, rfl⟩ : ∃ j, k = j + 1 := ⟨k - 1, by cases k <;> simp at *; omega⟩
  refine ⟨j, by rw [Nat.pow_succ] at h1; omega, xor8 h2 h3, xt_lt h3, ?_⟩
  rw [← h4, mulTo, if_pos e, Nat.xor_assoc]
theorem mulRel_no {z n x y : Nat} (h : MulRel z n x y) (hy : y ≠ 0) (e : ¬ y % 2 = 1) : MulRel z n (xt x) (y / 2) := by
  obtain ⟨k, h1, h2, h3, h4⟩ := h
  obtain ⟨j, rfl⟩ : ∃ j, k = j + 1 := ⟨k - 1, by cases k <;> simp at *; omega⟩
  refine ⟨j, by rw [Nat.pow_succ] at h1; omega, h2, xt_lt h3, ?_⟩
  rw [← h4, mulTo, if_neg e]; simp

theorem xor285 {x : Nat} (h : x < 256) (h2 : ¬ x < 128) : bits .xor .i64 (2 * (x : Int)) 285 = ((xt x : Nat) : Int) := by
  have := xor64 (a := 2 * x) (b := 285) (by omega) (by omega)
  rw [xt_yes h h2, ← this]; simp

end Go.Proofs.Ytfpgobkedfhakab.Gf

/- What GfMul, GfInv and GfDiv of the program and of the model answer, whatever they are given. -/
namespace Go.Proofs.Ytfpgobkedfhakab.Gf
open Go.RowKit

theorem el_nat {a : Int} (h : el a = true) : ∃ n : Nat, a = n ∧ n < 256 := by
  simp [el] at h; exact ⟨a.toNat, by omega, by omega⟩
theorem el_of {n : Nat} (h : n < 256) : el (n : Int) = true := by simp [el]; omega
theorem mulZ_nat {a b : Nat} (ha : a < 256) (hb : b < 256) : mulZ a b = (mul a b : Nat) := by
  simp [mulZ, el_of ha, el_of hb]
theorem mulZ_no {a b : Int} (h : ¬ (el a = true ∧ el b = true)) : mulZ a b = 0 := by
  unfold mulZ; rw [if_neg]; simpa using h

def invZ (a : Int) : Int := if el a && decide (a ≠ 0) then (inv a.toNat : Nat) else 0
theorem invZ_nat {a : Nat} (ha : a < 256) : invZ a = (inv a : Nat) := by
  by_cases h : a = 0
  · subst h; rw [inv_zero]; rfl
  · simp only [invZ, el_of ha]; rw [if_pos (by simp; omega)]; rfl
theorem invZ_no {a : Int} (h : el a = false) : invZ a = 0 := by simp [invZ, h]
theorem invZ_zero : invZ 0 = 0 := rfl
def divZ (a b : Int) : Int := mulZ a (invZ b)
theorem divZ_nat {a b : Nat} (ha : a < 256) (hb : b < 256) : divZ a b = (mul a (inv b) : Nat) := by
  unfold divZ; rw [invZ_nat hb, mulZ_nat ha (inv_lt hb)]
theorem mulZ_zero (a : Int) : mulZ a 0 = 0 := by
  unfold mulZ; split
  · simp [mul_zero]
  · rfl

/-- is it from low to high? -/
def isB (n l h : Int) : Bool := decide (l ≤ n ∧ n ≤ h)
theorem l05Is_any (n l h : Int) (w : World) : Calls Try.prog 29 #[.int .i64 n, .int .i64 l, .int .i64 h] w fun e w' => e = .returned (.bool (isB n l h)) ∧ w = w' := by
  by_cases h0 : l ≤ n
  · by_cases h1 : n ≤ h
    · have hh : isB n l h = true := by simp [isB, h0, h1]
      go_enter Try.func29, Try.ntmps29
      go_wp2
      go_ret
      simp_all
    · have hh : isB n l h = false := by simp [isB]; omega
      go_enter Try.func29, Try.ntmps29
      go_wp2
      go_ret
      simp_all
  · have hh : isB n l h = false := by simp [isB]; omega
    go_enter Try.func29, Try.ntmps29
    go_wp2
    go_ret
    simp_all
theorem invTo_s1 (k a : Nat) : (invTo (k + 1) a).2 = mul (invTo k a).2 (invTo k a).2 := rfl
theorem invTo_s0 (k a : Nat) : (invTo (k + 1) a).1 = mul (invTo k a).1 (invTo (k + 1) a).2 := rfl

theorem is1_yes {m : Nat} (hm : m < 256) (h0 : ¬ m = 0) : isB (m : Int) 1 255 = true := by simp [isB]; omega
theorem is1_no {a : Int} (h : el a = false) : isB a 1 255 = false := by simp [isB, el] at *; omega

end Go.Proofs.Ytfpgobkedfhakab.Gf

/- The line through places of chapter 6 as a function of numbers, and lists of numbers in memory. -/
namespace Go.Proofs.Ytfpgobkedfhakab.Gf
open Go.RowKit Go.Proofs.Ytfpgobkedfhakab.Mem

/-- what the value at place i counts at t, the first k places looked at -/
def wt (xs : List Nat) (t i : Nat) : Nat → Nat
  | 0 => 1
  | k + 1 => if k = i then wt xs t i k else mul (wt xs t i k) (mul (t ^^^ xs.getD k 0) (inv (xs.getD i 0 ^^^ xs.getD k 0)))
def weight (xs : List Nat) (t i : Nat) : Nat := wt xs t i xs.length
theorem wt_lt (xs : List Nat) (t i : Nat) : ∀ k, wt xs t i k < 256
  | 0 => by simp [wt]
  | k + 1 => by
    unfold wt; split
    · exact wt_lt xs t i k
    · exact mul_lt (wt_lt xs t i k)
theorem weight_lt (xs : List Nat) (t i : Nat) : weight xs t i < 256 := wt_lt _ _ _ _
def weights (xs : List Nat) (t k : Nat) : List Nat := (List.range k).map (weight xs t)
theorem weights_len (xs : List Nat) (t k : Nat) : (weights xs t k).length = k := by simp [weights]
theorem weights_succ (xs : List Nat) (t k : Nat) : weights xs t (k + 1) = weights xs t k ++ [weight xs t k] := by simp [weights, List.range_succ]
theorem weights_at (xs : List Nat) (t k i : Nat) (h : i < (weights xs t k).length) : (weights xs t k)[i] = weight xs t i := by simp [weights]
/-- the sum of values, each as often as c says; of places from 0 to k -/
def sumTo (c y : Nat → Nat) : Nat → Nat
  | 0 => 0
  | k + 1 => sumTo c y k ^^^ mul (c k) (y k)
theorem sumTo_lt (c y : Nat → Nat) (hc : ∀ i, c i < 256) : ∀ k, sumTo c y k < 256
  | 0 => by simp [sumTo]
  | k + 1 => xor8 (sumTo_lt c y hc k) (mul_lt (hc k))
def line (xs ys : List Nat) (t : Nat) : Nat := sumTo (weight xs t) (fun i => ys.getD i 0) xs.length
def Els (xs : List Nat) : Prop := ∀ x ∈ xs, x < 256
theorem Els.at {xs : List Nat} (h : Els xs) {j : Nat} (hj : j < xs.length) : xs[j] < 256 := h _ (List.getElem_mem hj)

/-- The slice v reads as the numbers xs, each of kind k. -/
def NumsK (k : IntKind) (W : World) (v : Value) (xs : List Nat) : Prop :=
  ∃ a cap, v = .slice a xs.length cap ∧ ∀ j (h : j < xs.length), ∃ b o, a = some ⟨b, o, none⟩ ∧ W.cell? ⟨b, o + j, none⟩ = some (.int k (xs[j] : Nat))
theorem NumsK.below {k : IntKind} {W W' : World} {v : Value} {l : List Nat} (h : NumsK k W v l) (hb : Below W.heap.size W W') : NumsK k W' v l := by
  obtain ⟨a, cap, hv, hc⟩ := h
  refine ⟨a, cap, hv, fun j hj => ?_⟩
  obtain ⟨b, o, ha, hcell⟩ := hc j hj
  refine ⟨b, o, ha, ?_⟩
  rw [hb.cell (World.block_lt_of_cell? W _ hcell)]
  exact hcell
theorem nums_of_ints {W : World} {v : Value} {l : List Int} (h : Harn.Ints W v l) (h0 : ∀ x ∈ l, 0 ≤ x) : NumsK .i64 W v (l.map Int.toNat) := by
  obtain ⟨a, cap, hv, hc⟩ := h
  refine ⟨a, cap, by simpa using hv, fun j hj => ?_⟩
  have hj2 : j < l.length := by simpa using hj
  obtain ⟨b, o, ha, hcell⟩ := hc j hj2
  refine ⟨b, o, ha, ?_⟩
  rw [hcell]
  have := h0 _ (List.getElem_mem hj2)
  simp only [List.getElem_map]
  congr 2; omega
theorem NumsK.shape {k : IntKind} {W : World} {v : Value} {xs : List Nat} (h : NumsK k W v xs) : ∃ a cap, v = .slice a xs.length cap := ⟨_, _, h.choose_spec.choose_spec.1⟩

/-- The cells of numbers. -/
def ncells (k : IntKind) (xs : List Nat) : List Value := xs.map fun x => .int k (x : Nat)
theorem length_ncells (k : IntKind) (xs : List Nat) : (ncells k xs).length = xs.length := by simp [ncells]
theorem ncells_snoc (k : IntKind) (xs : List Nat) (x : Nat) : ncells k (xs ++ [x]) = ncells k xs ++ [.int k (x : Nat)] := by simp [ncells]
/-- A list of numbers that owns its row, or is nil. -/
def OwnN (k : IntKind) (T : TypeId) (W : World) (base : Nat) (v : Value) (xs : List Nat) : Prop := W.ownsRow base T 1 v xs.length (ncells k xs)
theorem OwnN.nums {k : IntKind} {T : TypeId} {W : World} {base : Nat} {v : Value} {xs : List Nat} (h : OwnN k T W base v xs) : NumsK k W v xs := by
  have h0 := h
  rcases h.2 with ⟨rfl, hn⟩ | ⟨g, cap, cur, rfl, _⟩
  · exact ⟨none, 0, by rw [hn], fun j hj => by omega⟩
  · refine ⟨_, cap, rfl, fun j hj => ⟨g, 0, rfl, ?_⟩⟩
    have := World.ownsRow.cellAt h0 j (by omega)
    rw [Nat.zero_add, this]
    simp [ncells, hj]
theorem OwnN.lt {k : IntKind} {T : TypeId} {W : World} {base : Nat} {v : Value} {xs : List Nat} (h : OwnN k T W base v xs) : ∀ g, v.ownBlock = some g → base ≤ g ∧ g < W.heap.size := World.ownsRow.lt h
theorem OwnN.same {k : IntKind} {T : TypeId} {W W' : World} {base B : Nat} {v : Value} {l : List Nat} (h : OwnN k T W base v l) (hb : ∀ g, v.ownBlock = some g → W'.heap[g]? = W.heap[g]?) (hB : B ≤ base) : OwnN k T W' B v l := by
  obtain ⟨h1, h2⟩ := h
  refine ⟨h1, ?_⟩
  rcases h2 with ⟨rfl, h2⟩ | ⟨g, cap, cur, rfl, e2, e3, e4⟩
  · exact .inl ⟨rfl, h2⟩
  · exact .inr ⟨g, cap, cur, rfl, by omega, (hb g rfl).trans e3, e4⟩
theorem OwnN.below {k : IntKind} {T : TypeId} {W W' : World} {base B : Nat} {v : Value} {l : List Nat} (h : OwnN k T W base v l) (hb : Below W.heap.size W W') (hB : B ≤ base) : OwnN k T W' B v l := h.same (fun g hg => hb.block g (h.lt g hg).2) hB
theorem OwnN.drewN {k : IntKind} {T : TypeId} {W : World} {base : Nat} {v : Value} {l : List Nat} (h : OwnN k T W base v l) (n : Nat) : OwnN k T (W.drewN n) base v l := h
theorem ownN_empty (k : IntKind) (T : TypeId) (w : World) (base : Nat) (h : base ≤ w.heap.size) : OwnN k T (w.alloc (.cells #[] T)) base (.slice (some ⟨w.heap.size, 0, none⟩) 0 0) [] :=
  w.ownsRow_made #[] 0 h (by unfold maxLen; omega) (by simp)

theorem addr_add0 (b j : Nat) : (⟨b, 0, none⟩ : Addr).add j = ⟨b, j, none⟩ := by unfold Addr.add; split <;> simp_all
theorem infoI64' : (Try.prog.info? 2).map (fun i => (i.zero, i.size, i.bytes)) = some (some (.int .i64 0), 1, 8) := by kernel_rfl
/-- a call of 'append' whose run is known -/
theorem wp_app1 {P : Program} {w : World} {ops : Array Oper} {rest : List Oper} {o : Oper} {a : Act} {Q : Exit → Act → World → Prop} (hgd : o.guard = none) (s x : Operand) (t : TypeId)
    (ho : o.op = .call { callee := .builtin .append, args := #[s, x], argTypes := #[t, t] }) (v u r : Value) (w' : World) (hs : a.eval s = v) (hx : a.eval x = u)
    (hr : (Builtin.append_ #[t, t] o.type #[v, u]).run P w = .ok r w') (h : wpList P ops Q rest (a.put o.dst r) w') : wpList P ops Q (o :: rest) a w :=
  wpList_plain hgd fun _ hK => by
    unfold Oper.wp execOp
    simp only [ho, resolve, invoke, builtin, Sem.run_bind, Sem.run_pure, Result.andThen_ok, List.map_toArray, List.map_cons, List.map_nil, hs, hx, hr]
    exact hK _ _ h
theorem cell_new (W : World) (v : Value) (T : TypeId) : (W.alloc (.cells #[v] T)).cell? ⟨W.heap.size, 0, none⟩ = some v := by simp
theorem size_new {B : Nat} {W : World} (h : B ≤ W.heap.size) (o : Obj) : B ≤ (W.alloc o).heap.size := by simp; omega
end Go.Proofs.Ytfpgobkedfhakab.Gf

/- A list of values of one cell each that the call itself appends to; texts. -/
namespace Go.Proofs.Ytfpgobkedfhakab.Gf
open Go.RowKit Go.Proofs.Ytfpgobkedfhakab.Mem Go.Proofs.Ytfpgobkedfhakab.Harn

def OwnV (T : TypeId) (W : World) (base : Nat) (v : Value) (cs : List Value) : Prop := W.ownsRow base T 1 v cs.length cs
theorem OwnV.lt {T : TypeId} {W : World} {base : Nat} {v : Value} {cs : List Value} (h : OwnV T W base v cs) : ∀ g, v.ownBlock = some g → base ≤ g ∧ g < W.heap.size := World.ownsRow.lt h
theorem OwnV.same {T : TypeId} {W W' : World} {base B : Nat} {v : Value} {l : List Value} (h : OwnV T W base v l) (hb : ∀ g, v.ownBlock = some g → W'.heap[g]? = W.heap[g]?) (hB : B ≤ base) : OwnV T W' B v l := by
  obtain ⟨h1, h2⟩ := h
  refine ⟨h1, ?_⟩
  rcases h2 with ⟨rfl, h2⟩ | ⟨g, cap, cur, rfl, e2, e3, e4⟩
  · exact .inl ⟨rfl, h2⟩
  · exact .inr ⟨g, cap, cur, rfl, by omega, (hb g rfl).trans e3, e4⟩
theorem OwnV.below {T : TypeId} {W W' : World} {base B : Nat} {v : Value} {l : List Value} (h : OwnV T W base v l) (hb : Below W.heap.size W W') (hB : B ≤ base) : OwnV T W' B v l := h.same (fun g hg => hb.block g (h.lt g hg).2) hB
theorem ownV_empty (T : TypeId) (w : World) (base : Nat) (h : base ≤ w.heap.size) : OwnV T (w.alloc (.cells #[] T)) base (.slice (some ⟨w.heap.size, 0, none⟩) 0 0) [] :=
  w.ownsRow_made #[] 0 h (by unfold maxLen; omega) (by simp)
theorem OwnV.cells {T : TypeId} {W : World} {base : Nat} {v : Value} {cs : List Value} (h : OwnV T W base v cs) : ∃ a cap, v = .slice a cs.length cap ∧ cs.length ≤ cap ∧ ∀ j (_ : j < cs.length), ∃ g, a = some ⟨g, 0, none⟩ ∧ W.cell? ⟨g, j, none⟩ = cs[j]? ∧ W.frozen? ⟨g, j, none⟩ = false := by
  have h0 := h
  rcases h.2 with ⟨rfl, hn⟩ | ⟨g, cap, cur, rfl, _, _, e3, e4, _⟩
  · exact ⟨none, 0, by rw [hn], by omega, fun j hj => by omega⟩
  · refine ⟨_, cap, rfl, by omega, fun j hj => ⟨g, rfl, World.ownsRow.cellAt h0 j (by omega), World.ownsRow.frozenAt h0 _⟩⟩

theorem app_val {P : Program} (t ty T : TypeId) (z : Value) (bytes : Nat) (ht : P.underlying t = some (.slice T)) (hi : (P.info? T).map (fun i => (i.zero, i.size, i.bytes)) = some (some z, 1, bytes)) (hzs : z.cells.size = 1) (hby : bytes ≤ 64) (base b : Nat) (v : Value) (cs : List Value) (u : Value) (W : World) (h : OwnV T W base v cs) (hbase : base ≤ W.heap.size) (h0 : W.cell? ⟨b, 0, none⟩ = some u) (h1 : u.oneCell' = true) (hn : cs.length ≤ 1100000) :
    ∃ g' cap W1, (Builtin.append_ #[t, t] ty #[v, .slice (some ⟨b, 0, none⟩) 1 1]).run P W = .ok (.slice (some ⟨g', 0, none⟩) (cs.length + 1) cap) W1 ∧ OwnV T W1 base (.slice (some ⟨g', 0, none⟩) (cs.length + 1) cap) (cs ++ [u]) ∧ (v.ownBlock = some g' ∨ g' = W.heap.size) ∧ g' < W1.heap.size ∧ W.grownBy W1 v.ownBlock := by
  obtain ⟨i, hi0, hz0, hz1, hz2⟩ := info_parts hi
  obtain ⟨g', cap, W1, hr, hown, hgr, hat, hlt⟩ := run_append_lies (P := P) W t ty base T i z 1 bytes ht hi0 hz0 hz1 hz2 hzs (by omega) v cs.length cs h ⟨b, 0, none⟩ 1 1 [u] rfl (fun j x hx => by
    rw [addr_add0]
    rcases j with _ | j
    · simp at hx; rw [h0, hx]
    · simp at hx) (by simp [h1]) (by omega) (by unfold maxLen; omega) (by
      have : (cs.length + 1) * bytes ≤ 1100001 * 64 := Nat.mul_le_mul (by omega) hby
      omega) hbase W.heap.size rfl
  exact ⟨g', cap, W1, hr, by unfold OwnV; simpa using hown, hat, hlt, hgr⟩
theorem wp_val {P : Program} {w : World} {ops : Array Oper} {rest : List Oper} {o : Oper} {a : Act} {Q : Exit → Act → World → Prop} (hgd : o.guard = none) (s x : Operand) (t T : TypeId) (z : Value) (bytes : Nat)
    (ho : o.op = .call { callee := .builtin .append, args := #[s, x], argTypes := #[t, t] }) (ht : P.underlying t = some (.slice T)) (hi : (P.info? T).map (fun i => (i.zero, i.size, i.bytes)) = some (some z, 1, bytes)) (hzs : z.cells.size = 1) (hby : bytes ≤ 64) (base b : Nat) (v : Value) (cs : List Value) (y : Value) (hs : a.eval s = v) (hx : a.eval x = .slice (some ⟨b, 0, none⟩) 1 1)
    (h : OwnV T w base v cs) (hbase : base ≤ w.heap.size) (h0 : w.cell? ⟨b, 0, none⟩ = some y) (h1 : y.oneCell' = true) (hn : cs.length ≤ 1100000)
    (hK : ∀ g cap w', OwnV T w' base (.slice (some ⟨g, 0, none⟩) (cs.length + 1) cap) (cs ++ [y]) → Below base w w' → w.heap.size ≤ w'.heap.size → wpList P ops Q rest (a.put o.dst (.slice (some ⟨g, 0, none⟩) (cs.length + 1) cap)) w') : wpList P ops Q (o :: rest) a w := by
  obtain ⟨g', cap, w', hr, a1, _, _, a4⟩ := app_val t o.type T z bytes ht hi hzs hby base b v cs y w h hbase h0 h1 hn
  have hb := (Below.refl base w).grown a4 hbase (fun j hj => (World.ownsRow.lt h j hj).1)
  exact wp_app1 hgd s x _ ho _ _ _ w' hs hx hr (hK g' cap w' a1 hb hb.size)

/-- A list of texts that owns its row, or is nil. -/
def OwnS (W : World) (base : Nat) (v : Value) (ls : List ByteArray) : Prop := OwnV 9 W base v (ls.map Value.string)
theorem OwnS.strs {W : World} {base : Nat} {v : Value} {ls : List ByteArray} (h : OwnS W base v ls) : Strs W v ls := by
  obtain ⟨a, cap, rfl, _, hc⟩ := OwnV.cells h
  have hl : (ls.map Value.string).length = ls.length := by simp
  refine ⟨a, cap, by rw [hl], fun j hj => ?_⟩
  obtain ⟨g, rfl, c, _⟩ := hc j (by omega)
  exact ⟨g, 0, rfl, by rw [Nat.zero_add, c]; simp [hj]⟩
theorem wp_str {w : World} {ops : Array Oper} {rest : List Oper} {o : Oper} {a : Act} {Q : Exit → Act → World → Prop} (hgd : o.guard = none) (s x : Operand)
    (ho : o.op = .call { callee := .builtin .append, args := #[s, x], argTypes := #[39, 39] }) (base b : Nat) (v : Value) (ls : List ByteArray) (y : ByteArray) (hs : a.eval s = v) (hx : a.eval x = .slice (some ⟨b, 0, none⟩) 1 1)
    (h : OwnS w base v ls) (hbase : base ≤ w.heap.size) (h0 : w.cell? ⟨b, 0, none⟩ = some (.string y)) (hn : ls.length ≤ 1100000)
    (hK : ∀ g cap w', OwnS w' base (.slice (some ⟨g, 0, none⟩) (ls.length + 1) cap) (ls ++ [y]) → Below base w w' → w.heap.size ≤ w'.heap.size → wpList Try.prog ops Q rest (a.put o.dst (.slice (some ⟨g, 0, none⟩) (ls.length + 1) cap)) w') : wpList Try.prog ops Q (o :: rest) a w :=
  wp_val hgd s x _ _ _ 16 ho underStrs infoStr rfl (by omega) base b v (ls.map Value.string) (.string y) hs hx h hbase h0 rfl (by simpa using hn) (fun g cap w' h1 h2 h3 => by
    have := hK g cap w' (by unfold OwnS; rw [List.map_append]; simpa using h1) h2 h3
    simpa using this)
theorem OwnS.below {W W' : World} {base B : Nat} {v : Value} {l : List ByteArray} (h : OwnS W base v l) (hb : Below W.heap.size W W') (hB : B ≤ base) : OwnS W' B v l := OwnV.below h hb hB
theorem OwnS.alloc {W : World} {base : Nat} {v : Value} {l : List ByteArray} (h : OwnS W base v l) (o : Obj) : OwnS (W.alloc o) base v l := OwnS.below h ((Below.refl _ _).alloc (Nat.le_refl _) _) (Nat.le_refl _)
theorem OwnV.alloc {T : TypeId} {W : World} {base : Nat} {v : Value} {l : List Value} (h : OwnV T W base v l) (o : Obj) : OwnV T (W.alloc o) base v l := OwnV.below h ((Below.refl _ _).alloc (Nat.le_refl _) _) (Nat.le_refl _)
end Go.Proofs.Ytfpgobkedfhakab.Gf

/- Lists of structs, of n cells each, in memory: for any struct. -/
namespace Go.Proofs.Ytfpgobkedfhakab.Rws
open Go.RowKit Go.Proofs.Ytfpgobkedfhakab.Mem Go.Proofs.Ytfpgobkedfhakab.Gf Go.Proofs.Ytfpgobkedfhakab.Harn

theorem hidR {p : Prop} (h : p) : Hid p := h
/-- The slice v reads as the rows rs, of n cells each. -/
def Rs (W : World) (n : Nat) (v : Value) (rs : List (List Value)) : Prop :=
  ∃ a cap, v = .slice a rs.length cap ∧ ∀ j (h : j < rs.length), ∃ b o, a = some ⟨b, o, none⟩ ∧ ∀ i (_ : i < n), ∃ u, rs[j][i]? = some u ∧ W.cell? ⟨b, o + j * n + i, none⟩ = some u
theorem Rs.below {W W' : World} {n : Nat} {v : Value} {rs : List (List Value)} (h : Rs W n v rs) (hb : Below W.heap.size W W') : Rs W' n v rs := by
  obtain ⟨a, cap, hv, hc⟩ := h
  refine ⟨a, cap, hv, fun j hj => ?_⟩
  obtain ⟨b, o, ha, hi⟩ := hc j hj
  refine ⟨b, o, ha, fun i hin => ?_⟩
  obtain ⟨u, h1, h2⟩ := hi i hin
  exact ⟨u, h1, (hb.cell (World.block_lt_of_cell? W _ h2)).trans h2⟩
/-- The rows rs lie in block g from place o on, and may be written. -/
def RsAt (W : World) (n g o : Nat) (rs : List (List Value)) : Prop :=
  ∀ j (h : j < rs.length) i (_ : i < n), (∃ u, rs[j][i]? = some u ∧ W.cell? ⟨g, o + j * n + i, none⟩ = some u) ∧ W.frozen? ⟨g, o + j * n + i, none⟩ = false
theorem RsAt.rs {W : World} {n g o : Nat} {rs : List (List Value)} (h : RsAt W n g o rs) (c : Nat) : Rs W n (.slice (some ⟨g, o, none⟩) rs.length c) rs :=
  ⟨_, c, rfl, fun j hj => ⟨g, o, rfl, fun i hi => (h j hj i hi).1⟩⟩
theorem RsAt.below {W W' : World} {n g o : Nat} {rs : List (List Value)} (h : RsAt W n g o rs) (hb : Below W.heap.size W W') : RsAt W' n g o rs := fun j hj i hi => by
  obtain ⟨⟨u, h1, h2⟩, h3⟩ := h j hj i hi
  have hl := World.block_lt_of_cell? W _ h2
  exact ⟨⟨u, h1, (hb.cell hl).trans h2⟩, (hb.frozen hl).trans h3⟩
theorem RsAt.lt {W : World} {n g o : Nat} {rs : List (List Value)} (h : RsAt W n g o rs) (hn : 0 < n) (h0 : 0 < rs.length) : g < W.heap.size := by
  obtain ⟨⟨u, _, h2⟩, _⟩ := h 0 h0 0 hn
  exact World.block_lt_of_cell? W _ h2
theorem addr_ne {g a b : Nat} (h : a ≠ b) : (⟨g, a, none⟩ : Addr) ≠ ⟨g, b, none⟩ := fun e => by injection e with _ e2 _; exact h e2
theorem place_ne {o n j i k q : Nat} (hi : i < n) (hq : q < n) (h : j ≠ k ∨ i ≠ q) : o + j * n + i ≠ o + k * n + q := by
  rcases Nat.lt_trichotomy j k with hl | rfl | hg
  · have := Nat.mul_le_mul_right n (show j + 1 ≤ k from hl)
    rw [Nat.add_mul] at this
    omega
  · rcases h with h | h
    · exact absurd rfl h
    · omega
  · have := Nat.mul_le_mul_right n (show k + 1 ≤ j from hg)
    rw [Nat.add_mul] at this
    omega
theorem RsAt.set {W : World} {n g o : Nat} {rs : List (List Value)} (h : RsAt W n g o rs) {j i : Nat} (hj : j < rs.length) (hi : i < n) (x : Value) : RsAt (W.setCell ⟨g, o + j * n + i, none⟩ x) n g o (rs.set j (rs[j].set i x)) := fun k hk q hq => by
  have hk2 : k < rs.length := by simpa using hk
  obtain ⟨⟨u, h1, h2⟩, h3⟩ := h k hk2 q hq
  obtain ⟨⟨u0, k1, k2⟩, _⟩ := h j hj i hi
  refine ⟨?_, by simpa using h3⟩
  by_cases e : j = k
  · subst e
    by_cases e2 : i = q
    · subst e2
      obtain ⟨hl, _⟩ := List.getElem?_eq_some_iff.1 k1
      refine ⟨x, ?_, World.cell?_setCell_same _ _ _ k2⟩
      rw [List.getElem_set_self, List.getElem?_set_self hl]
    · refine ⟨u, ?_, ?_⟩
      · rw [List.getElem_set_self, List.getElem?_set_ne e2]; exact h1
      · rw [World.cell?_setCell_other _ _ _ _ (addr_ne (place_ne hi hq (.inr e2)))]; exact h2
  · refine ⟨u, ?_, ?_⟩
    · rw [List.getElem_set_ne e]; exact h1
    · rw [World.cell?_setCell_other _ _ _ _ (addr_ne (place_ne hi hq (.inl e)))]; exact h2
theorem RsAt.other {W : World} {n g o : Nat} {rs : List (List Value)} (h : RsAt W n g o rs) (a : Addr) (v : Value) (hg : g ≠ a.block) : RsAt (W.setCell a v) n g o rs := fun j hj i hi => by
  obtain ⟨⟨u, h1, h2⟩, h3⟩ := h j hj i hi
  refine ⟨⟨u, h1, ?_⟩, by simpa using h3⟩
  rw [World.cell?_setCell_other _ _ _ _ (fun e => hg (by rw [e]))]; exact h2
theorem RsAt.grown {W W' : World} {n g o : Nat} {r : Option Nat} {rs : List (List Value)} (h : RsAt W n g o rs) (hg : W.grownBy W' r) (hr : r ≠ some g) : RsAt W' n g o rs := fun j hj i hi => by
  obtain ⟨⟨u, h1, h2⟩, h3⟩ := h j hj i hi
  have hl := World.block_lt_of_cell? W _ h2
  have hb : W'.heap[g]? = W.heap[g]? := hg.block g hl (fun e => hr e.symm)
  refine ⟨⟨u, h1, ?_⟩, ?_⟩
  · rw [← h2]; unfold World.cell?; simp only [hb]
  · rw [← h3]; unfold World.frozen?; simp only [hb]

theorem flat_len {n : Nat} : ∀ (rs : List (List Value)), (∀ r ∈ rs, r.length = n) → rs.flatten.length = rs.length * n
  | [], _ => by simp
  | r :: rs, h => by
    have h1 := flat_len rs fun x hx => h x (by simp [hx])
    have h2 := h r (by simp)
    simp only [List.flatten_cons, List.length_append, h1, h2, List.length_cons, Nat.add_mul]; omega
theorem flat_at {n : Nat} : ∀ (rs : List (List Value)), (∀ r ∈ rs, r.length = n) → ∀ j (h : j < rs.length) i, i < n → rs.flatten[j * n + i]? = rs[j][i]?
  | r :: rs, h, 0, _, i, hi => by
    have h2 := h r (by simp)
    simp only [List.flatten_cons, Nat.zero_mul, Nat.zero_add, List.getElem_cons_zero]
    rw [List.getElem?_append_left (by omega)]
  | r :: rs, h, j + 1, hj, i, hi => by
    have h2 := h r (by simp)
    have h1 := flat_at rs (fun x hx => h x (by simp [hx])) j (by simpa using hj) i hi
    simp only [List.flatten_cons, List.getElem_cons_succ]
    rw [List.getElem?_append_right (by rw [h2, Nat.add_mul]; omega), h2, ← h1]
    congr 1
    rw [Nat.add_mul]; omega
/-- A list of rows that owns its block, or is nil. -/
def OwnR (W : World) (base : Nat) (T : TypeId) (n : Nat) (v : Value) (rs : List (List Value)) : Prop := (∀ r ∈ rs, r.length = n) ∧ W.ownsRow base T n v rs.length rs.flatten
theorem ownR_nil (W : World) (base : Nat) (T : TypeId) (n : Nat) : OwnR W base T n (.slice none 0 0) [] := ⟨by simp, World.ownsRow_nil _ _ _ _⟩
theorem ownR_empty {W : World} {base g : Nat} {T : TypeId} {n : Nat} (hb : base ≤ g) (h : HasRow W g [] T) : OwnR W base T n (.slice (some ⟨g, 0, none⟩) 0 0) [] := ⟨by simp, by simp, .inr ⟨g, 0, #[], rfl, hb, h, by simp, by simp, by simp, by simp⟩⟩
theorem OwnR.lt {W : World} {base : Nat} {T : TypeId} {n : Nat} {v : Value} {rs : List (List Value)} (h : OwnR W base T n v rs) : ∀ g, v.ownBlock = some g → base ≤ g ∧ g < W.heap.size := World.ownsRow.lt h.2
theorem OwnR.same {W W' : World} {base B : Nat} {T : TypeId} {n : Nat} {v : Value} {rs : List (List Value)} (h : OwnR W base T n v rs) (hb : ∀ g, v.ownBlock = some g → W'.heap[g]? = W.heap[g]?) (hB : B ≤ base) : OwnR W' B T n v rs := by
  obtain ⟨h0, h1, h2⟩ := h
  refine ⟨h0, h1, ?_⟩
  rcases h2 with ⟨rfl, h2⟩ | ⟨g, cap, cur, rfl, e2, e3, e4⟩
  · exact .inl ⟨rfl, h2⟩
  · exact .inr ⟨g, cap, cur, rfl, by omega, (hb g rfl).trans e3, e4⟩
theorem OwnR.below {W W' : World} {base B : Nat} {T : TypeId} {n : Nat} {v : Value} {rs : List (List Value)} (h : OwnR W base T n v rs) (hb : Below W.heap.size W W') (hB : B ≤ base) : OwnR W' B T n v rs := h.same (fun g hg => hb.block g (h.lt g hg).2) hB
theorem OwnR.setCell {W : World} {base : Nat} {T : TypeId} {n : Nat} {v : Value} {rs : List (List Value)} (h : OwnR W base T n v rs) {a : Addr} (ha : v.ownBlock ≠ some a.block) (u : Value) : OwnR (W.setCell a u) base T n v rs := h.same (fun g hg => Below.heap_setCell _ _ _ _ (fun e => ha (by rw [← e]; exact hg))) (Nat.le_refl _)
theorem OwnR.form {W : World} {base : Nat} {T : TypeId} {n : Nat} {v : Value} {rs : List (List Value)} (h : OwnR W base T n v rs) : ∃ ad c, v = .slice ad rs.length c := by
  rcases h.2.2 with ⟨rfl, hn⟩ | ⟨g, cap, cur, rfl, _⟩
  · exact ⟨none, 0, by rw [hn]⟩
  · exact ⟨_, _, rfl⟩
theorem OwnR.mk {W : World} {base : Nat} {T : TypeId} {n : Nat} {v : Value} {rs : List (List Value)} (h : OwnR W base T n v rs) : (v = .slice none 0 0 ∧ rs = []) ∨ ∃ g cap, v = .slice (some ⟨g, 0, none⟩) rs.length cap ∧ RsAt W n g 0 rs ∧ base ≤ g ∧ g < W.heap.size ∧ rs.length ≤ cap := by
  have h0 := h
  rcases h.2.2 with ⟨rfl, hn⟩ | ⟨g, cap, cur, rfl, _, _, hc, _⟩
  · exact .inl ⟨rfl, List.length_eq_zero_iff.1 hn⟩
  · have hl := h0.lt g rfl
    refine .inr ⟨g, cap, rfl, fun j hj i hi => ?_, hl.1, hl.2, hc⟩
    have hr := h0.1 _ (List.getElem_mem hj)
    have h1 : W.ownsRow base T n (.slice (some ⟨g, 0, none⟩) rs.length cap) rs.length rs.flatten := h0.2
    have hjn : j * n + i < rs.length * n := by
      have := Nat.mul_le_mul_right n (show j + 1 ≤ rs.length from hj)
      rw [Nat.add_mul] at this
      omega
    have hcell := h1.cellAt (j * n + i) hjn
    have hf := h1.frozenAt (j * n + i)
    rw [flat_at rs h0.1 j hj i hi] at hcell
    rw [Nat.zero_add]
    have hu := List.getElem?_eq_getElem (l := rs[j]) (i := i) (by omega)
    exact ⟨⟨_, hu, hcell.trans hu⟩, hf⟩
theorem OwnR.rs {W : World} {base : Nat} {T : TypeId} {n : Nat} {v : Value} {rs : List (List Value)} (h : OwnR W base T n v rs) : Rs W n v rs := by
  rcases h.mk with ⟨rfl, rfl⟩ | ⟨g, cap, rfl, h, _⟩
  · exact ⟨none, 0, rfl, fun j hj => by simp at hj⟩
  · exact h.rs cap
/-- a struct's type and its lists' type -/
structure Kind (t T : TypeId) (n : Nat) : Prop where
  under : Try.prog.underlying t = some (.slice T)
  info : ∃ z bytes, (Try.prog.info? T).map (fun i => (i.zero, i.size, i.bytes)) = some (some z, n, bytes) ∧ z.cells.size = n ∧ bytes ≤ 256
  pos : 0 < n
theorem run_row {w : World} {t T : TypeId} {n : Nat} (hk : Kind t T n) (ty : TypeId) (base b : Nat) (v : Value) (rs : List (List Value)) (r : List Value) (h : OwnR w base T n v rs) (hbase : base ≤ w.heap.size) (hr : r.length = n) (hc : HasRow w b r T) (h1 : ∀ u ∈ r, u.oneCell' = true) (hn : rs.length ≤ 1000000) :
    ∃ g c w', (Builtin.append_ #[t, t] ty #[v, .slice (some ⟨b, 0, none⟩) 1 1]).run Try.prog w = .ok (.slice (some ⟨g, 0, none⟩) (rs.length + 1) c) w' ∧ OwnR w' base T n (.slice (some ⟨g, 0, none⟩) (rs.length + 1) c) (rs ++ [r]) ∧ w.grownBy w' v.ownBlock ∧ (v.ownBlock = some g ∨ g = w.heap.size) ∧ g < w'.heap.size := by
  obtain ⟨z, bytes, hi, hz, hby⟩ := hk.info
  obtain ⟨i, hi0, hz0, hz1, hz2⟩ := info_parts hi
  have hn0 := hk.pos
  obtain ⟨g', cap, w', hrun, hown, hgr, hat, hlt⟩ := run_append_lies (P := Try.prog) w t ty base T i z n bytes hk.under hi0 hz0 hz1 hz2 hz hn0 v rs.length rs.flatten h.2 ⟨b, 0, none⟩ 1 1 r (by omega) (fun j u hu => by
    have hadd : (⟨b, 0, none⟩ : Addr).add j = ⟨b, j, none⟩ := by unfold Addr.add; split <;> simp_all
    rw [hadd, Mem.cell_of_row hc j, hu]) h1 (by omega) (by unfold maxLen; omega) (by
      have : (rs.length + 1) * bytes ≤ 1000001 * 256 := Nat.mul_le_mul (by omega) hby
      omega) hbase w.heap.size rfl
  refine ⟨g', cap, w', hrun, ⟨?_, ?_⟩, hgr, hat, hlt⟩
  · intro x hx
    rcases List.mem_append.1 hx with hx | hx
    · exact h.1 x hx
    · simp at hx; subst hx; exact hr
  · simpa using hown
/-- 'append(v, Struct{..})' -/
theorem step_row {w : World} {ops : Array Oper} {o : Oper} {a : Act} {K : Act → World → Prop} {Q : Exit → Act → World → Prop} {E : Prop} {t T : TypeId} {n : Nat} (hk : Kind t T n) (hgd : o.guard = none) (s x : Operand)
    (ho : o.op = .call { callee := .builtin .append, args := #[s, x], argTypes := #[t, t] }) (base b : Nat) (v : Value) (rs : List (List Value)) (r : List Value) (hs : a.eval s = v) (hx : a.eval x = .slice (some ⟨b, 0, none⟩) 1 1)
    (h : OwnR w base T n v rs) (hbase : base ≤ w.heap.size) (hr : r.length = n) (hc : HasRow w b r T) (h1 : ∀ u ∈ r, u.oneCell' = true) (hn : rs.length ≤ 1000000)
    (hK : ∀ g c w', OwnR w' base T n (.slice (some ⟨g, 0, none⟩) (rs.length + 1) c) (rs ++ [r]) → w.grownBy w' v.ownBlock → K (a.put o.dst (.slice (some ⟨g, 0, none⟩) (rs.length + 1) c)) w') :
    if Region.wanted o (yielded ops a.tmps) = true then Oper.wp Try.prog o a w K Q else E := by
  obtain ⟨g, c, w', hrun, ho2, hg, _, _⟩ := run_row hk o.type base b v rs r h hbase hr hc h1 hn
  exact step_app hgd s x _ ho _ _ _ w' hs hx hrun (hK g c w' ho2 hg)
theorem wp_row {w : World} {ops : Array Oper} {rest : List Oper} {o : Oper} {a : Act} {Q : Exit → Act → World → Prop} {t T : TypeId} {n : Nat} (hk : Kind t T n) (hgd : o.guard = none) (s x : Operand)
    (ho : o.op = .call { callee := .builtin .append, args := #[s, x], argTypes := #[t, t] }) (base b : Nat) (v : Value) (rs : List (List Value)) (r : List Value) (hs : a.eval s = v) (hx : a.eval x = .slice (some ⟨b, 0, none⟩) 1 1)
    (h : OwnR w base T n v rs) (hbase : base ≤ w.heap.size) (hr : r.length = n) (hc : HasRow w b r T) (h1 : ∀ u ∈ r, u.oneCell' = true) (hn : rs.length ≤ 1000000)
    (hK : ∀ g c w', OwnR w' base T n (.slice (some ⟨g, 0, none⟩) (rs.length + 1) c) (rs ++ [r]) → w.grownBy w' v.ownBlock → wpList Try.prog ops Q rest (a.put o.dst (.slice (some ⟨g, 0, none⟩) (rs.length + 1) c)) w') : wpList Try.prog ops Q (o :: rest) a w := by
  obtain ⟨g, c, w', hrun, ho2, hg, _, _⟩ := run_row hk o.type base b v rs r h hbase hr hc h1 hn
  exact wp_app1 hgd s x _ ho _ _ _ w' hs hx hrun (hK g c w' ho2 hg)
/-- a made list -/
theorem make_rows {t T : TypeId} {n : Nat} (z : Value) (bytes : Nat) (hu : Try.prog.underlying t = some (.slice T)) (hi : (Try.prog.info? T).map (fun i => (i.zero, i.size, i.bytes)) = some (some z, n, bytes)) (hz : z.cells.size = n) (hby : bytes ≤ 256) (m : Nat) (hm : m ≤ 2000000) (w : World) :
    ∃ W1, (Instr.makeSlice t (.int .i64 (m : Int)) (.int .i64 (m : Int))).run Try.prog w = .ok (.slice (some ⟨w.heap.size, 0, none⟩) m m) W1 ∧ RsAt W1 n w.heap.size 0 (List.replicate m z.cells.toList) ∧ Below w.heap.size w W1 ∧ W1.heap.size = w.heap.size + 1 := by
  obtain ⟨i, hi0, hz0, hs, hb⟩ := info_parts hi
  have hmb : m * bytes ≤ 2000000 * 256 := Nat.mul_le_mul hm hby
  have hmb' : (bytes : Int) * (m : Int) ≤ 281474976710656 := by
    rw [Int.mul_comm, show (m : Int) * (bytes : Int) = ((m * bytes : Nat) : Int) by simp]; omega
  have hr := run_make (P := Try.prog) w t T i _ hu hi0 hz0 .i64 .i64 (m : Int) (m : Int) (by omega) (by omega) (by rw [hb]; exact hmb') (by omega)
  simp only [Int.toNat_natCast] at hr
  refine ⟨_, hr, fun j hj q hq => ?_, (Below.refl _ _).alloc (Nat.le_refl _) _, by simp⟩
  have hjm : j < m := by simpa using hj
  rw [hs]
  refine ⟨⟨z.cells[q]'(by omega), ?_, ?_⟩, by simp⟩
  · rw [List.getElem_replicate]; simp
  · have hlt : j * n + q < m * n := by
      have := Nat.mul_le_mul_right n (show j + 1 ≤ m from hjm)
      rw [Nat.add_mul] at this; omega
    have hmod : (j * n + q) % n = q := by rw [Nat.add_comm, Nat.add_mul_mod_self_right, Nat.mod_eq_of_lt hq]
    have hmod2 : (j * n + q) % z.cells.size = q := by rw [hz]; exact hmod
    simp [madeCells, hlt, hmod2, show q < z.cells.size by omega]
end Go.Proofs.Ytfpgobkedfhakab.Rws

/- What the model's weights answer. -/
namespace Go.Proofs.Ytfpgobkedfhakab.Gf
open Go.RowKit Go.Proofs.Ytfpgobkedfhakab.Mem

theorem xorN {a b : Nat} (ha : a < 256) (hb : b < 256) : bits .xor .i64 (a : Int) (b : Int) = ((a ^^^ b : Nat) : Int) := xor64 (by omega) (by omega)
theorem getD_at {xs : List Nat} {j : Nat} (h : j < xs.length) : xs.getD j 0 = xs[j] := by simp [List.getD, h]

end Go.Proofs.Ytfpgobkedfhakab.Gf

/- What Interp asks and answers, as a function of lists of numbers. -/
namespace Go.Proofs.Ytfpgobkedfhakab.Gf
open Go.RowKit Go.Proofs.Ytfpgobkedfhakab.Mem

def okAt (xs ys : List Int) (i : Nat) : Bool := el (xs.getD i 0) && el (ys.getD i 0) && (List.range i).all fun j => decide (xs.getD j 0 ≠ xs.getD i 0)
def okAll (xs ys : List Int) : Bool := (List.range xs.length).all (okAt xs ys)
def headOk (xs ys : List Int) (t : Int) : Bool := decide (1 ≤ xs.length) && decide (xs.length ≤ 10) && decide (ys.length = xs.length) && el t
def lineOk (xs ys : List Int) (t : Int) : Bool := headOk xs ys t && okAll xs ys
def interpZ (xs ys : List Int) (t : Int) : Int := if lineOk xs ys t then (line (xs.map Int.toNat) (ys.map Int.toNat) t.toNat : Nat) else 0

theorem getZ {xs : List Int} {j : Nat} (h : j < xs.length) : xs.getD j 0 = xs[j] := by simp [List.getD, h]
theorem okAt_no1 {xs ys : List Int} {i : Nat} (h : el (xs.getD i 0) = false) : okAt xs ys i = false := by unfold okAt; rw [h]; rfl
theorem okAt_no2 {xs ys : List Int} {i : Nat} (h : el (ys.getD i 0) = false) : okAt xs ys i = false := by unfold okAt; rw [h, Bool.and_false]; rfl
theorem okAt_no3 {xs ys : List Int} {i j : Nat} (hj : j < i) (h : xs.getD j 0 = xs.getD i 0) : okAt xs ys i = false := by
  have : ((List.range i).all fun j => decide (xs.getD j 0 ≠ xs.getD i 0)) = false := by
    rw [List.all_eq_false]
    exact ⟨j, by simpa using hj, by rw [h]; simp⟩
  unfold okAt; rw [this]; simp
theorem okAt_yes {xs ys : List Int} {i : Nat} (h1 : el (xs.getD i 0) = true) (h2 : el (ys.getD i 0) = true) (h : ∀ j, j < i → xs.getD j 0 ≠ xs.getD i 0) : okAt xs ys i = true := by
  unfold okAt
  rw [h1, h2, Bool.and_self, Bool.true_and, List.all_eq_true]
  intro j hj
  simpa using h j (by simpa using hj)
theorem okAll_no {xs ys : List Int} {i : Nat} (hi : i < xs.length) (h : okAt xs ys i = false) : okAll xs ys = false := by
  unfold okAll
  rw [List.all_eq_false]
  exact ⟨i, by simpa using hi, by simp [h]⟩
theorem okAll_yes {xs ys : List Int} (h : ∀ i, i < xs.length → okAt xs ys i = true) : okAll xs ys = true := by
  unfold okAll
  rw [List.all_eq_true]
  intro i hi
  exact h i (by simpa using hi)
theorem okAt_el1 {xs ys : List Int} {i : Nat} (h : okAt xs ys i = true) : el (xs.getD i 0) = true := by unfold okAt at h; rw [Bool.and_eq_true, Bool.and_eq_true] at h; exact h.1.1
theorem okAt_el2 {xs ys : List Int} {i : Nat} (h : okAt xs ys i = true) : el (ys.getD i 0) = true := by unfold okAt at h; rw [Bool.and_eq_true, Bool.and_eq_true] at h; exact h.1.2
theorem okAt_ne {xs ys : List Int} {i : Nat} (h : okAt xs ys i = true) (j : Nat) (hj : j < i) : xs.getD j 0 ≠ xs.getD i 0 := by
  unfold okAt at h
  rw [Bool.and_eq_true, List.all_eq_true] at h
  have := h.2 j (by simpa using hj)
  simpa using this
theorem okAll_at {xs ys : List Int} (h : okAll xs ys = true) (i : Nat) (hi : i < xs.length) : okAt xs ys i = true := by
  unfold okAll at h
  rw [List.all_eq_true] at h
  exact h i (by simpa using hi)
theorem interp_no {xs ys : List Int} {t : Int} (h : lineOk xs ys t = false) : interpZ xs ys t = 0 := by unfold interpZ; rw [h]; rfl
theorem interp_no' {xs ys : List Int} {t : Int} {i : Nat} (hi : i < xs.length) (h : okAt xs ys i = false) : interpZ xs ys t = 0 := by
  apply interp_no; unfold lineOk; rw [okAll_no hi h]; simp
theorem interp_yes {xs ys : List Int} {t : Int} (hh : headOk xs ys t = true) (h : ∀ i, i < xs.length → okAt xs ys i = true) : interpZ xs ys t = (line (xs.map Int.toNat) (ys.map Int.toNat) t.toNat : Nat) := by
  unfold interpZ; rw [if_pos]; unfold lineOk; rw [hh, okAll_yes h]; rfl
theorem el_bd {a : Int} (h : el a = true) : 0 ≤ a ∧ a ≤ 255 := by simpa [el] using h
theorem els_of {xs ys : List Int} (hl : ys.length = xs.length) (h : ∀ i, i < xs.length → okAt xs ys i = true) : (∀ x ∈ xs, 0 ≤ x) ∧ (∀ x ∈ ys, 0 ≤ x) ∧ Els (xs.map Int.toNat) ∧ Els (ys.map Int.toNat) := by
  have h1 : ∀ x ∈ xs, 0 ≤ x ∧ x ≤ 255 := fun x hx => by
    obtain ⟨i, hi, rfl⟩ := List.getElem_of_mem hx
    have := el_bd (okAt_el1 (h i hi)); rwa [getZ hi] at this
  have h2 : ∀ x ∈ ys, 0 ≤ x ∧ x ≤ 255 := fun x hx => by
    obtain ⟨i, hi, rfl⟩ := List.getElem_of_mem hx
    have := el_bd (okAt_el2 (h i (by omega))); rwa [getZ hi] at this
  refine ⟨fun x hx => (h1 x hx).1, fun x hx => (h2 x hx).1, fun x hx => ?_, fun x hx => ?_⟩
  · obtain ⟨y, hy, rfl⟩ := List.mem_map.1 hx; have := h1 y hy; omega
  · obtain ⟨y, hy, rfl⟩ := List.mem_map.1 hx; have := h2 y hy; omega
theorem headOk_parts {xs ys : List Int} {t : Int} (h : headOk xs ys t = true) : 1 ≤ xs.length ∧ xs.length ≤ 10 ∧ ys.length = xs.length ∧ el t = true := by
  unfold headOk at h; simp only [Bool.and_eq_true, decide_eq_true_eq] at h; exact ⟨h.1.1.1, h.1.1.2, h.1.2, h.2⟩
theorem headOk_not {xs ys : List Int} {t : Int} (h : headOk xs ys t = false) : xs.length < 1 ∨ (¬ xs.length < 1 ∧ 10 < xs.length) ∨ (¬ xs.length < 1 ∧ ¬ 10 < xs.length ∧ ¬ ys.length = xs.length) ∨ (¬ xs.length < 1 ∧ ¬ 10 < xs.length ∧ ys.length = xs.length ∧ el t = false) := by
  by_cases h1 : xs.length < 1
  · exact .inl h1
  · by_cases h2 : 10 < xs.length
    · exact .inr (.inl ⟨h1, h2⟩)
    · by_cases h3 : ys.length = xs.length
      · refine .inr (.inr (.inr ⟨h1, h2, h3, ?_⟩))
        have a1 : decide (1 ≤ xs.length) = true := decide_eq_true (by omega)
        have a2 : decide (xs.length ≤ 10) = true := decide_eq_true (by omega)
        have a3 : decide (ys.length = xs.length) = true := decide_eq_true h3
        unfold headOk at h
        rw [a1, a2, a3] at h; simpa using h
      · exact .inr (.inr (.inl ⟨h1, h2, h3⟩))
theorem interp_head {xs ys : List Int} {t : Int} (h : headOk xs ys t = false) : interpZ xs ys t = 0 := by
  apply interp_no; unfold lineOk; rw [h]; rfl
theorem sumTo_map (xs ys : List Int) (t : Nat) (k : Nat) (hk : k < ys.length) (y : Nat) (hy : ys[k] = (y : Nat)) :
    sumTo (weight (xs.map Int.toNat) t) (fun i => (ys.map Int.toNat).getD i 0) (k + 1) = sumTo (weight (xs.map Int.toNat) t) (fun i => (ys.map Int.toNat).getD i 0) k ^^^ mul (weight (xs.map Int.toNat) t k) y := by
  rw [sumTo]
  have : (ys.map Int.toNat).getD k 0 = y := by simp [List.getD, hk, hy]
  rw [this]
end Go.Proofs.Ytfpgobkedfhakab.Gf

/- What the program's lineRight answers. -/
namespace Go.Proofs.Ytfpgobkedfhakab.Gf
open Go.RowKit Go.Proofs.Ytfpgobkedfhakab.Mem

theorem lineOk_yes {xs ys : List Int} {t : Int} (hh : headOk xs ys t = true) (h : ∀ i, i < xs.length → okAt xs ys i = true) : lineOk xs ys t = true := by unfold lineOk; rw [hh, okAll_yes h]; rfl
theorem lineOk_no {xs ys : List Int} {t : Int} {i : Nat} (hi : i < xs.length) (h : okAt xs ys i = false) : lineOk xs ys t = false := by unfold lineOk; rw [okAll_no hi h]; simp
theorem lineOk_head {xs ys : List Int} {t : Int} (h : headOk xs ys t = false) : lineOk xs ys t = false := by unfold lineOk; rw [h]; rfl

end Go.Proofs.Ytfpgobkedfhakab.Gf

/- What the program's closure of weights answers, and sums of pieces as lists. -/
namespace Go.Proofs.Ytfpgobkedfhakab.Gf
open Go.RowKit Go.Proofs.Ytfpgobkedfhakab.Mem

/-- What the closure of weights holds: the places xs, and a place t. -/
def Clos (w : World) (bx bt : Nat) (xs : List Nat) (t : Nat) : Prop := ∃ vx, w.cell? ⟨bx, 0, none⟩ = some vx ∧ w.cell? ⟨bt, 0, none⟩ = some (.int .i64 (t : Nat)) ∧ NumsK .i64 w vx xs
theorem Clos.below {w W : World} {bx bt : Nat} {xs : List Nat} {t : Nat} (h : Clos w bx bt xs t) (hb : Below w.heap.size w W) : Clos W bx bt xs t := by
  obtain ⟨vx, h1, h2, h3⟩ := h
  exact ⟨vx, (hb.cell (World.block_lt_of_cell? w _ h1)).trans h1, (hb.cell (World.block_lt_of_cell? w _ h2)).trans h2, h3.below hb⟩

/-- The value v reads as the lists ps of numbers of kind k. -/
def Lists (k : IntKind) (W : World) (v : Value) (ps : List (List Nat)) : Prop :=
  ∃ a cap, v = .slice a ps.length cap ∧ ∀ j (h : j < ps.length), ∃ b o u, a = some ⟨b, o, none⟩ ∧ W.cell? ⟨b, o + j, none⟩ = some u ∧ NumsK k W u ps[j]
theorem Lists.below {k : IntKind} {W W' : World} {v : Value} {l : List (List Nat)} (h : Lists k W v l) (hb : Below W.heap.size W W') : Lists k W' v l := by
  obtain ⟨a, cap, hv, hc⟩ := h
  refine ⟨a, cap, hv, fun j hj => ?_⟩
  obtain ⟨b, o, u, ha, hcell, hn⟩ := hc j hj
  exact ⟨b, o, u, ha, (hb.cell (World.block_lt_of_cell? W _ hcell)).trans hcell, hn.below hb⟩

/-- the sum of the pieces at place j, each as often as c says; the first k of them -/
def mixAt (c : Nat → Nat) (ps : List (List Nat)) (j k : Nat) : Nat := sumTo c (fun i => (ps.getD i []).getD j 0) k
/-- the sum in the midst: at the first m places one piece more -/
def mixRow (c : Nat → Nat) (ps : List (List Nat)) (L i m : Nat) : List Nat := (List.range L).map fun j => if j < m then mixAt c ps j (i + 1) else mixAt c ps j i
def mixed (c : Nat → Nat) (ps : List (List Nat)) (L : Nat) : List Nat := (List.range L).map fun j => mixAt c ps j ps.length
theorem length_mixRow (c : Nat → Nat) (ps : List (List Nat)) (L i m : Nat) : (mixRow c ps L i m).length = L := by simp [mixRow]
theorem mixRow_start (c : Nat → Nat) (ps : List (List Nat)) (L : Nat) (k : IntKind) : ncells k (mixRow c ps L 0 0) = List.replicate L (.int k 0) := by
  apply List.ext_getElem
  · simp [ncells, mixRow]
  · intro j h1 h2; simp [ncells, mixRow, mixAt, sumTo]
theorem mixRow_next (c : Nat → Nat) (ps : List (List Nat)) (L i : Nat) : mixRow c ps L i L = mixRow c ps L (i + 1) 0 := by
  unfold mixRow
  apply List.map_congr_left
  intro j hj
  have : j < L := by simpa using hj
  simp [this]
theorem mixRow_end (c : Nat → Nat) (ps : List (List Nat)) (L : Nat) : mixRow c ps L ps.length 0 = mixed c ps L := by
  unfold mixRow mixed
  apply List.map_congr_left
  intro j hj
  simp
theorem mixRow_at (c : Nat → Nat) (ps : List (List Nat)) (L i m : Nat) (k : IntKind) (hm : m < L) : (ncells k (mixRow c ps L i m))[m]? = some (.int k (mixAt c ps m i : Nat)) := by
  simp [ncells, mixRow, hm]
theorem mixRow_set (c : Nat → Nat) (ps : List (List Nat)) (L i m : Nat) (k : IntKind) : (ncells k (mixRow c ps L i m)).set m (.int k (mixAt c ps m (i + 1) : Nat)) = ncells k (mixRow c ps L i (m + 1)) := by
  apply List.ext_getElem
  · simp [ncells, mixRow]
  · intro j h1 h2
    by_cases e : m = j
    · subst e; simp [ncells, mixRow]
    · rw [List.getElem_set_ne e]
      by_cases e2 : j < m
      · have : j < m + 1 := by omega
        simp [ncells, mixRow, e2, this]
      · have : ¬ j < m + 1 := by omega
        simp [ncells, mixRow, e2, this]
theorem mixAt_succ (c : Nat → Nat) (ps : List (List Nat)) (m i : Nat) (hi : i < ps.length) (hm : m < ps[i].length) : mixAt c ps m (i + 1) = mixAt c ps m i ^^^ mul (c i) ps[i][m] := by
  unfold mixAt
  rw [sumTo]
  simp [List.getD, hi, hm]
theorem mixAt_lt (c : Nat → Nat) (ps : List (List Nat)) (j k : Nat) (hc : ∀ i, c i < 256) : mixAt c ps j k < 256 := sumTo_lt _ _ hc _
end Go.Proofs.Ytfpgobkedfhakab.Gf

/- Spread as a function of lists of numbers and of texts. -/
namespace Go.Proofs.Ytfpgobkedfhakab.Gf
open Go.RowKit

def toB (l : List Nat) : ByteArray := ⟨(l.map UInt8.ofNat).toArray⟩
def nb (s : ByteArray) : List Nat := s.data.toList.map UInt8.toNat
theorem nb_len (s : ByteArray) : (nb s).length = s.size := by simp [nb]
theorem toB_size (l : List Nat) : (toB l).size = l.length := by unfold toB; show (Array.size _) = _; simp
theorem nb_els (s : ByteArray) : Els (nb s) := fun x hx => by
  obtain ⟨b, _, rfl⟩ := List.mem_map.1 hx; exact b.toNat_lt
theorem toB_nb (s : ByteArray) : toB (nb s) = s := by
  apply ByteArray.ext
  simp [toB, nb, Function.comp_def]
theorem nb_toB {l : List Nat} (h : Els l) : nb (toB l) = l := by
  unfold nb toB
  simp only [List.map_map]
  have : ∀ x ∈ l, (UInt8.toNat ∘ UInt8.ofNat) x = x := fun x hx => by
    have := h x hx
    simp; omega
  rw [List.map_congr_left this]; simp
theorem nb_at (s : ByteArray) (k : Nat) (h : k < s.size) : (nb s)[k]'(by rw [nb_len]; exact h) = (s[k]).toNat := by simp [nb]; rfl

def plen (need size : Nat) : Nat := (size + need - 1) / need
theorem plen_ge {need size : Nat} (h : 0 < need) : size ≤ need * plen need size := by
  unfold plen
  have := Nat.div_add_mod (size + need - 1) need
  have := Nat.mod_lt (size + need - 1) h
  omega
theorem plen_le (need size : Nat) : need * plen need size ≤ size + need - 1 := Nat.mul_div_le _ _
theorem plen_pos {need size : Nat} (h : 0 < need) (h2 : 0 < size) : 0 < plen need size := by
  unfold plen; exact Nat.div_pos (by omega) h
theorem plen_small {need size : Nat} (h : 0 < need) : plen need size ≤ size + need := by
  unfold plen; exact Nat.le_trans (Nat.div_le_self _ _) (by omega)
def pad (s : List Nat) (need : Nat) : List Nat := s ++ List.replicate (need * plen need s.length - s.length) 0
theorem pad_len {s : List Nat} {need : Nat} (h : 0 < need) : (pad s need).length = need * plen need s.length := by
  have := plen_ge (size := s.length) h
  simp [pad]; omega
def cutL (s : List Nat) (need i : Nat) : List Nat := ((pad s need).drop (i * plen need s.length)).take (plen need s.length)
theorem cut_room {need L i : Nat} (h : i < need) : i * L + L ≤ need * L := by
  have : (i + 1) * L ≤ need * L := Nat.mul_le_mul (by omega) (Nat.le_refl _)
  rw [Nat.add_mul] at this; omega
theorem cutL_len {s : List Nat} {need i : Nat} (h : i < need) : (cutL s need i).length = plen need s.length := by
  have := cut_room (L := plen need s.length) h
  have := pad_len (s := s) (need := need) (by omega)
  simp [cutL]; omega
theorem pad_els {s : List Nat} (h : Els s) (need : Nat) : Els (pad s need) := fun x hx => by
  rcases List.mem_append.1 hx with h1 | h1
  · exact h x h1
  · have := (List.mem_replicate.1 h1).2; omega
theorem cutL_els {s : List Nat} (h : Els s) (need i : Nat) : Els (cutL s need i) := fun x hx => pad_els h need x (List.mem_of_mem_drop (List.mem_of_mem_take hx))
def firsts (s : List Nat) (need : Nat) : List (List Nat) := (List.range need).map (cutL s need)
/-- the further piece of the number need + i -/
def rest1 (ps : List (List Nat)) (need L i : Nat) : List Nat := mixed (weight (List.range need) (need + i)) ps L
def rests (ps : List (List Nat)) (need L more : Nat) : List (List Nat) := (List.range more).map (rest1 ps need L)
def spreadL (s : List Nat) (need more : Nat) : List (List Nat) := firsts s need ++ rests (firsts s need) need (plen need s.length) more
theorem firsts_len (s : List Nat) (need : Nat) : (firsts s need).length = need := by simp [firsts]
theorem spreadL_len (s : List Nat) (need more : Nat) : (spreadL s need more).length = need + more := by simp [spreadL, firsts, rests]
theorem mixed_len (c : Nat → Nat) (ps : List (List Nat)) (L : Nat) : (mixed c ps L).length = L := by simp [mixed]
theorem mixed_els (c : Nat → Nat) (ps : List (List Nat)) (L : Nat) (h : ∀ i, c i < 256) : Els (mixed c ps L) := fun x hx => by
  obtain ⟨j, _, rfl⟩ := List.mem_map.1 hx; exact mixAt_lt _ _ _ _ h
theorem firsts_all (s : List Nat) (need : Nat) : ∀ p ∈ firsts s need, p.length = plen need s.length := fun p hp => by
  obtain ⟨i, hi, rfl⟩ := List.mem_map.1 hp; exact cutL_len (by simpa using hi)
theorem firsts_els {s : List Nat} (h : Els s) (need : Nat) : ∀ p ∈ firsts s need, Els p := fun p hp => by
  obtain ⟨i, hi, rfl⟩ := List.mem_map.1 hp; exact cutL_els h _ _
theorem firsts_succ (s : List Nat) (need k : Nat) : (List.range (k + 1)).map (cutL s need) = (List.range k).map (cutL s need) ++ [cutL s need k] := by simp [List.range_succ]
theorem rests_succ (ps : List (List Nat)) (need L k : Nat) : rests ps need L (k + 1) = rests ps need L k ++ [rest1 ps need L k] := by simp [rests, List.range_succ]
theorem range_els {n : Nat} (h : n ≤ 256) : Els (List.range n) := fun x hx => by
  have h2 : x < n := by simpa using hx
  omega
/-- may a group be so? -/
def fineB (need more size : Int) : Bool := isB need 1 6 && isB more 0 4 && isB size 1 100
def spreadO (t : ByteArray) (need more : Int) : List ByteArray := if fineB need more t.size then (spreadL (nb t) need.toNat more.toNat).map toB else []
theorem fine_parts {need more size : Int} (h : fineB need more size = true) : ∃ n m s : Nat, need = n ∧ more = m ∧ size = s ∧ 1 ≤ n ∧ n ≤ 6 ∧ m ≤ 4 ∧ 1 ≤ s ∧ s ≤ 100 := by
  simp only [fineB, isB, Bool.and_eq_true, decide_eq_true_eq] at h
  exact ⟨need.toNat, more.toNat, size.toNat, by omega, by omega, by omega, by omega, by omega, by omega, by omega, by omega⟩
end Go.Proofs.Ytfpgobkedfhakab.Gf

/- A frame as eight cells, and when it is right. -/
namespace Go.Proofs.Ytfpgobkedfhakab.Frm
open Go.RowKit Go.Proofs.Ytfpgobkedfhakab.Gf

/-- A frame: its six numbers, its shard's Index and its Data. -/
structure Fr where
  o : Int
  g : Int
  gs : Int
  n : Int
  m : Int
  s : Int
  x : Int
  t : ByteArray
def Fr.val (f : Fr) : Value := .agg #[.int .i64 f.o, .int .i64 f.g, .int .i64 f.gs, .int .i64 f.n, .int .i64 f.m, .int .i64 f.s, .int .i64 f.x, .string f.t]
def Fr.right (f : Fr) : Bool := isB f.o 1 1000000 && isB f.gs 1 9 && isB f.g 0 (f.gs - 1) && fineB f.n f.m f.s && isB f.x 0 (f.n + f.m - 1) && decide (f.t.size = plen f.n.toNat f.s.toNat)
theorem isB_iff {n l h : Int} : isB n l h = true ↔ l ≤ n ∧ n ≤ h := by simp [isB]
theorem isB_no {n l h : Int} : isB n l h = false ↔ ¬ (l ≤ n ∧ n ≤ h) := by simp [isB]
/-- where the first fault lies -/
theorem Fr.cases (f : Fr) : (isB f.o 1 1000000 = false ∧ f.right = false) ∨ (isB f.o 1 1000000 = true ∧ isB f.gs 1 9 = false ∧ f.right = false) ∨ (isB f.o 1 1000000 = true ∧ isB f.gs 1 9 = true ∧ isB f.g 0 (f.gs - 1) = false ∧ f.right = false) ∨ (isB f.o 1 1000000 = true ∧ isB f.gs 1 9 = true ∧ isB f.g 0 (f.gs - 1) = true ∧ fineB f.n f.m f.s = false ∧ f.right = false) ∨ (isB f.o 1 1000000 = true ∧ isB f.gs 1 9 = true ∧ isB f.g 0 (f.gs - 1) = true ∧ fineB f.n f.m f.s = true ∧ isB f.x 0 (f.n + f.m - 1) = false ∧ f.right = false) ∨ (isB f.o 1 1000000 = true ∧ isB f.gs 1 9 = true ∧ isB f.g 0 (f.gs - 1) = true ∧ fineB f.n f.m f.s = true ∧ isB f.x 0 (f.n + f.m - 1) = true ∧ f.right = decide (f.t.size = plen f.n.toNat f.s.toNat)) := by
  unfold Fr.right
  cases isB f.o 1 1000000 <;> cases isB f.gs 1 9 <;> cases isB f.g 0 (f.gs - 1) <;> cases fineB f.n f.m f.s <;> cases isB f.x 0 (f.n + f.m - 1) <;> simp
end Go.Proofs.Ytfpgobkedfhakab.Frm

/- What the two PutText functions answer, by contracts. -/
namespace Go.Proofs.Ytfpgobkedfhakab.PutText
open Go.RowKit Go.Proofs.Ytfpgobkedfhakab.Mem Go.Proofs.Ytfpgobkedfhakab.PutNum

/-- The bytes of a text of at most 8000 bytes. -/
def textB (t : ByteArray) : ByteArray := numB (t.size : Nat) ++ t

theorem size_numB (n : Int) : (numB n).size ≤ 10 := (length_numL n).2

theorem specPutText_out (t : ByteArray) (w : World) (h : 8000 < (t.size : Int)) :
    Calls Try.prog 21 #[.string t] w fun e w' => e = .returned (.string ByteArray.empty) ∧ Below w.heap.size w w' := by
  go_enter Try.func21, Try.ntmps21
  go_wp2
  go_ret
  exact ⟨rfl, Below.refl _ _⟩

theorem implPutText_out (t : ByteArray) (w : World) (h : 8000 < (t.size : Int)) :
    Calls Try.prog 15 #[.string t] w fun e w' => e = .returned (.string ByteArray.empty) ∧ Below w.heap.size w w' := by
  go_enter Try.func15, Try.ntmps15
  go_wp2
  go_ret
  exact ⟨rfl, Below.refl _ _⟩

set_option maxHeartbeats 400000 in
theorem specPutText_in (t : ByteArray) (w : World) (h : (t.size : Int) ≤ 8000) :
    Calls Try.prog 21 #[.string t] w fun e w' => e = .returned (.string (textB t)) ∧ Below w.heap.size w w' := by
  have K1 : Hid (∀ w, Calls Try.prog 20 #[.int .i64 (t.size : Nat)] w fun e w' => e = .returned (.string (numB (t.size : Nat))) ∧ Below w.heap.size w w') := fun w => specPutNum_any _ w (by omega) (by omega)
  have hz := size_numB (t.size : Nat)
  go_enter Try.func21, Try.ntmps21
  go_wp2_with (go_at_call 20; refine (K1.out _).mono ?_; rintro e w1 ⟨rfl, hb1⟩)
  go_ret
  exact ⟨rfl, hb1⟩

set_option maxHeartbeats 400000 in
theorem implPutText_in (t : ByteArray) (w : World) (h : (t.size : Int) ≤ 8000) :
    Calls Try.prog 15 #[.string t] w fun e w' => e = .returned (.string (textB t)) ∧ Below w.heap.size w w' := by
  have K1 : Hid (∀ w, Calls Try.prog 14 #[.int .i64 (t.size : Nat)] w fun e w' => e = .returned (.string (numB (t.size : Nat))) ∧ Below w.heap.size w w') := fun w => implPutNum_any _ w (by omega) (by omega)
  have hz := size_numB (t.size : Nat)
  have hz1 : (numB (t.size : Nat)).size ≤ 10000000 := by omega
  have hz2 : t.size ≤ 10000000 := by omega
  go_enter Try.func15, Try.ntmps15
  go_wp2_with (first | (go_at_call 14; refine (K1.out _).mono ?_; rintro e w1 ⟨rfl, hb1⟩) | (go_at_call 25; refine (Join.join_any _ _ _ hz1 hz2).mono ?_; rintro e w2 ⟨rfl, hb2⟩))
  go_ret
  exact ⟨rfl, bstep hb1 hb2⟩
end Go.Proofs.Ytfpgobkedfhakab.PutText

/- The bytes of a frame as lists of texts; texts put together. -/
namespace Go.Proofs.Ytfpgobkedfhakab.Frm
open Go.RowKit Go.Proofs.Ytfpgobkedfhakab.Gf

def Fr.nums (f : Fr) : List Int := [f.o, f.g, f.gs, f.n, f.m, f.s, f.x]
/-- texts put together -/
def catB : List ByteArray → ByteArray
  | [] => ByteArray.empty
  | t :: l => t ++ catB l
theorem catB_snoc (l : List ByteArray) (t : ByteArray) : catB (l ++ [t]) = catB l ++ t := by
  induction l with
  | nil => apply ByteArray.ext; simp [catB]
  | cons a l ih => simp only [List.cons_append, catB, ih]; apply ByteArray.ext; simp
def catS : List ByteArray → Nat
  | [] => 0
  | t :: l => t.size + catS l
theorem catB_size (l : List ByteArray) : (catB l).size = catS l := by
  induction l with
  | nil => rfl
  | cons a l ih => simp [catB, catS, ByteArray.size_append, ih]
theorem catS_take (l : List ByteArray) (k : Nat) : catS (l.take k) ≤ catS l := by
  induction l generalizing k with
  | nil => simp [catS]
  | cons a l ih =>
    cases k with
    | zero => simp [catS]
    | succ k => have := ih k; simp [catS]; omega
theorem catS_app (l l' : List ByteArray) : catS (l ++ l') = catS l + catS l' := by
  induction l with
  | nil => simp [catS]
  | cons a l ih => simp [catS, ih]; omega
/-- the texts of which a frame's bytes are put together -/
def Fr.texts (f : Fr) : List ByteArray := f.nums.map PutNum.numB ++ [PutText.textB f.t]
def Fr.bytes (f : Fr) : ByteArray := Seal.sealB (catB f.texts)
def Fr.out (f : Fr) : ByteArray := if f.right then f.bytes else ByteArray.empty
theorem numB_size (n : Int) : 1 ≤ (PutNum.numB n).size ∧ (PutNum.numB n).size ≤ 10 := by
  obtain ⟨h1, h2⟩ := PutNum.length_numL n
  have : (PutNum.numB n).size = (PutNum.numL n).length := rfl
  omega
/-- what is known of a right frame -/
theorem Fr.bounds {f : Fr} (h : f.right = true) : (1 ≤ f.o ∧ f.o ≤ 1000000) ∧ (0 ≤ f.g ∧ f.g ≤ 8) ∧ (1 ≤ f.gs ∧ f.gs ≤ 9) ∧ (1 ≤ f.n ∧ f.n ≤ 6) ∧ (0 ≤ f.m ∧ f.m ≤ 4) ∧ (1 ≤ f.s ∧ f.s ≤ 100) ∧ (0 ≤ f.x ∧ f.x ≤ 9) ∧ f.t.size ≤ 106 := by
  unfold Fr.right at h
  simp only [Bool.and_eq_true, decide_eq_true_eq] at h
  obtain ⟨⟨⟨⟨⟨h1, h2⟩, h3⟩, h4⟩, h5⟩, h6⟩ := h
  obtain ⟨n', m', s', e1, e2, e3, q1, q2, q3, q4, q5⟩ := fine_parts h4
  have a1 := isB_iff.1 h1
  have a2 := isB_iff.1 h2
  have a3 := isB_iff.1 h3
  have a5 := isB_iff.1 h5
  have a6 : f.t.size = plen n' s' := by rw [h6, e1, e3]; simp
  have a7 := plen_small (need := n') (size := s') (by omega)
  refine ⟨a1, ⟨by omega, by omega⟩, a2, ⟨by omega, by omega⟩, ⟨by omega, by omega⟩, ⟨by omega, by omega⟩, ⟨by omega, by omega⟩, by omega⟩
theorem Fr.texts_size {f : Fr} (h : f.t.size ≤ 1000) : catS f.texts ≤ 1080 := by
  have h0 := (numB_size f.o).2
  have h1 := (numB_size f.g).2
  have h2 := (numB_size f.gs).2
  have h3 := (numB_size f.n).2
  have h4 := (numB_size f.m).2
  have h5 := (numB_size f.s).2
  have h6 := (numB_size f.x).2
  have h7 := (numB_size (f.t.size : Nat)).2
  simp only [Fr.texts, Fr.nums, List.map_cons, List.map_nil, List.cons_append, List.nil_append, catS, PutText.textB, ByteArray.size_append]
  omega
end Go.Proofs.Ytfpgobkedfhakab.Frm
