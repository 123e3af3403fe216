/- Laws that the proof rests on, put together: What the multiplying functions of the program and of the model answer, by contracts. What GfMul, GfInv and GfDiv of the program and of the model answer, whatever they are given. The line through places of chapter 6 as a function of numbers, and lists of numbers in memory. What the model's weights answer. What Interp asks and answers, as a function of lists of numbers. What the program's lineRight answers. What the program's closure of weights answers, and sums of pieces as lists. Spread as a function of lists of numbers and of texts. A frame as eight cells, and when it is right. The bytes of a frame as lists of texts; texts put together. A list of values of one cell each that the call itself appends to; texts. What the laws' own functions on frames answer. What the program's mix of bytes answers. What the model's sum of texts answers. What the model's Spread answers. What the model's Spread answers, whole. What the model's look at a frame answers. What the model's bytes of a frame are. What the program's cutting of a text answers, and its small helpers. What the program's look at rising shards answers. What the program's look at a frame answers. What the program's bytes of a frame are. 'append(xs, ys...)' of lists of values of one cell each. -/
import Derived.Test.YtjgkekgieodhnaaDoorRows
import Derived.Test.YtjgkekgieodhnaaDoorGfPure
import Derived.WalkKit
import Derived.Below
import Derived.Laws.ShiftsVarLaws
import Derived.WalkSpells
import Derived.Deep.RegionWith
import Derived.Test.YtjgkekgieodhnaaDoorTextsB
import Derived.Deep.AppendLies
import Derived.ArgAppend
import Derived.Deep.RegionHeld3
import Derived.Deep.QuietTactic
import Derived.BigQuiet
import Derived.Test.YtjgkekgieodhnaaDoorTextsA
import Derived.BigRegion
/- What the multiplying functions of the program and of the model answer, by contracts. -/
namespace Go.Proofs.YtjgkekgieodhnaaDoor.Gf
open Go.RowKit

theorem ret_int {k : IntKind} {a b : Int} (h : a = b) : Ending.returned (.int k a) = .returned (.int k b) := by rw [h]
theorem val_int {k : IntKind} {a b : Int} (h : a = b) : Value.int k a = .int k b := by rw [h]

theorem xor64 {a b : Nat} (ha : a < 65536) (hb : b < 65536) : bits .xor .i64 (a : Int) (b : Int) = ((a ^^^ b : Nat) : Int) := by
  have hx : a ^^^ b < 2 ^ 16 := Nat.xor_lt_two_pow (by omega) (by omega)
  show IntKind.i64.wrap ((BitVec.ofInt 64 (a : Int) ^^^ BitVec.ofInt 64 (b : Int)).toNat : Int) = _
  rw [BitVec.toNat_xor, ofInt_u64 a (by omega), ofInt_u64 b (by omega), IntKind.wrap_i64]
  omega
theorem and1 {a : Nat} (ha : a < 65536) : bits .and .i64 (a : Int) 1 = ((a % 2 : Nat) : Int) := by
  show IntKind.i64.wrap ((BitVec.ofInt 64 (a : Int) &&& BitVec.ofInt 64 1).toNat : Int) = _
  have h1 : (BitVec.ofInt 64 1).toNat = 1 := by decide
  rw [BitVec.toNat_and, ofInt_u64 a (by omega), h1, Nat.and_one_is_mod, IntKind.wrap_i64]
  omega

/-- GfMul, whatever it is given -/
def el (a : Int) : Bool := decide (0 ≤ a ∧ a ≤ 255)
def mulZ (a b : Int) : Int := if el a && el b then (mul a.toNat b.toNat : Nat) else 0

theorem proTo_lt {a : Nat} (ha : a < 256) (b : Nat) : ∀ k, k ≤ 8 → proTo k a b < 65536
  | 0, _ => by simp [proTo]
  | k + 1, h => by
    unfold proTo
    refine Nat.xor_lt_two_pow (n := 16) (proTo_lt ha b k (by omega)) ?_
    split
    · rw [Nat.shiftLeft_eq]
      have h2 : (2 : Nat) ^ k ≤ 2 ^ 7 := Nat.pow_le_pow_right (by omega) (by omega)
      calc a * 2 ^ k ≤ 255 * 2 ^ 7 := Nat.mul_le_mul (by omega) h2
        _ < 2 ^ 16 := by decide
    · decide

theorem shr_test (b k : Nat) (hb : b < 65536) (h : b.testBit k = true) : (bits .and .i64 ((b : Int) / 2 ^ k) 1 == 1) = true := by
  have h2 : ((b : Int) / 2 ^ k) = ((b / 2 ^ k : Nat) : Int) := by simp
  rw [h2, and1 (Nat.lt_of_le_of_lt (Nat.div_le_self _ _) hb)]
  rw [Nat.testBit_eq_decide_div_mod_eq] at h
  simp at h
  rw [h]; rfl
theorem shr_test' (b k : Nat) (hb : b < 65536) (h : ¬ b.testBit k = true) : (bits .and .i64 ((b : Int) / 2 ^ k) 1 == 1) = false := by
  have h2 : ((b : Int) / 2 ^ k) = ((b / 2 ^ k : Nat) : Int) := by simp
  rw [h2, and1 (Nat.lt_of_le_of_lt (Nat.div_le_self _ _) hb)]
  rw [Nat.testBit_eq_decide_div_mod_eq] at h
  simp at h
  rw [beq_eq_false_iff_ne]; omega

theorem wrap64_small {a : Int} (h : 0 ≤ a) (h2 : a < 65536) : wrap64 a = a := by unfold wrap64; omega
theorem cast_shl (a k : Nat) : ((a * 2 ^ k : Nat) : Int) = (a : Int) * 2 ^ k := by rw [Int.natCast_mul, Int.natCast_pow]; rfl
theorem shl_lt (a k : Nat) (ha : a < 256) (hk : k < 8) : (a : Int) * 2 ^ k < 65536 := by
  have h2 : (2 : Nat) ^ k ≤ 2 ^ 7 := Nat.pow_le_pow_right (by omega) (by omega)
  have h : a * 2 ^ k ≤ 255 * 2 ^ 7 := Nat.mul_le_mul (by omega) h2
  have h' : ((a * 2 ^ k : Nat) : Int) ≤ ((255 * 2 ^ 7 : Nat) : Int) := Int.ofNat_le.mpr h
  have h3 := cast_shl a k
  rw [← h3]; omega
theorem shl_ge (a k : Nat) : 0 ≤ (a : Int) * 2 ^ k := by
  have h3 := cast_shl a k
  rw [← h3]; omega
theorem pro_step {a b k : Nat} (ha : a < 256) (hx : proTo k a b < 65536) (hk : k < 8) (e : b.testBit k = true) : bits .xor .i64 ((proTo k a b : Nat) : Int) (wrap64 ((a : Int) * 2 ^ k)) = ((proTo (k + 1) a b : Nat) : Int) := by
  have h2 : (a : Int) * 2 ^ k = ((a <<< k : Nat) : Int) := by rw [Nat.shiftLeft_eq]; exact (cast_shl a k).symm
  have hs1 := shl_lt a k ha hk
  rw [h2] at hs1 ⊢
  rw [wrap64_small (Int.natCast_nonneg _) (by omega), xor64 hx (by omega), proTo, if_pos e]
theorem red_ge (k : Nat) : 0 ≤ (285 : Int) * 2 ^ k := shl_ge 285 k
theorem red_lt (k : Nat) (hk : k < 7) : (285 : Int) * 2 ^ k < 65536 := by
  have h2 : (2 : Nat) ^ k ≤ 2 ^ 6 := Nat.pow_le_pow_right (by omega) (by omega)
  have h : 285 * 2 ^ k ≤ 285 * 2 ^ 6 := Nat.mul_le_mul (by omega) h2
  have h' : ((285 * 2 ^ k : Nat) : Int) ≤ ((285 * 2 ^ 6 : Nat) : Int) := Int.ofNat_le.mpr h
  have h3 : ((285 * 2 ^ k : Nat) : Int) = (285 : Int) * 2 ^ k := cast_shl 285 k
  rw [← h3]; omega
theorem red_step {q k : Nat} (hq : q < 65536) (hk : k < 7) (e : q.testBit (8 + k) = true) : bits .xor .i64 (q : Int) (wrap64 ((285 : Int) * 2 ^ k)) = ((redAt k q : Nat) : Int) := by
  have h2 : (285 : Int) * (2 : Int) ^ k = ((285 <<< k : Nat) : Int) := by rw [Nat.shiftLeft_eq]; exact (cast_shl 285 k).symm
  have hs1 := red_lt k hk
  rw [h2] at hs1 ⊢
  rw [wrap64_small (Int.natCast_nonneg _) (by omega), xor64 hq (by omega), redAt, if_pos e]
theorem red_no {q k : Nat} (e : ¬ q.testBit (8 + k) = true) : redAt k q = q := by rw [redAt, if_neg e]; simp
theorem redAt_lt {q k : Nat} (hq : q < 65536) (hk : k < 7) : redAt k q < 65536 := by
  refine Nat.xor_lt_two_pow (n := 16) hq ?_
  split
  · rw [Nat.shiftLeft_eq]; have := red_lt k hk
    have h3 : ((285 * 2 ^ k : Nat) : Int) = (285 : Int) * 2 ^ k := cast_shl 285 k
    rw [← h3] at this; omega
  · decide

theorem xt_no {a : Nat} (h : a < 128) : xt a = 2 * a := by
  have : a.testBit 7 = false := Nat.testBit_lt_two_pow (Nat.lt_of_lt_of_le h (by decide))
  simp [xt, this]
theorem xt_yes {a : Nat} (h : a < 256) (h2 : ¬ a < 128) : xt a = (2 * a) ^^^ 285 := by
  have : ∀ a, a < 256 → ¬ a < 128 → a.testBit 7 = true := by decide +kernel
  simp [xt, this a h h2]
theorem mulTo_zero : ∀ k a, mulTo k a 0 = 0 := fun k a => lin_of0 (lin_mulTo_right k a)

/-- a round of the model's loop -/
def MulRel (z n x y : Nat) : Prop := ∃ k, y < 2 ^ k ∧ n < 256 ∧ x < 256 ∧ n ^^^ mulTo k x y = z
theorem mulRel_start {a b : Nat} (ha : a < 256) (hb : b < 256) : MulRel (mul a b) 0 a b := ⟨8, hb, by omega, ha, by simp [mul]⟩
theorem mulRel_end {z n x : Nat} (h : MulRel z n x 0) : n = z := by
  obtain ⟨k, _, _, _, h⟩ := h
  rw [mulTo_zero] at h; simpa using h
theorem mulRel_lt {z n x y : Nat} (h : MulRel z n x y) : n < 256 ∧ x < 256 := ⟨h.choose_spec.2.1, h.choose_spec.2.2.1⟩
theorem mulRel_yes {z n x y : Nat} (h : MulRel z n x y) (e : y % 2 = 1) : MulRel z (n ^^^ x) (xt x) (y / 2) := by
  obtain ⟨k, h1, h2, h3, h4⟩ := h
  obtain ⟨j, rfl⟩ : ∃ j, k = j + 1 := ⟨k - 1, by cases k <;> simp at *; omega⟩
  refine ⟨j, by rw [Nat.pow_succ] at h1; omega, xor8 h2 h3, xt_lt h3, ?_⟩
  rw [← h4, mulTo, if_pos e, Nat.xor_assoc]
theorem mulRel_no {z n x y : Nat} (h : MulRel z n x y) (hy : y ≠ 0) (e : ¬ y % 2 = 1) : MulRel z n (xt x) (y / 2) := by
  obtain ⟨k, h1, h2, h3, h4⟩ := h
  obtain ⟨j, rfl⟩ : ∃ j, k = j + 1 := ⟨k - 1, by cases k <;> simp at *; omega⟩
  refine ⟨j, by rw [Nat.pow_succ] at h1; omega, h2, xt_lt h3, ?_⟩
  rw [← h4, mulTo, if_neg e]; simp

theorem xor285 {x : Nat} (h : x < 256) (h2 : ¬ x < 128) : bits .xor .i64 (2 * (x : Int)) 285 = ((xt x : Nat) : Int) := by
  have := xor64 (a := 2 * x) (b := 285) (by omega) (by omega)
  rw [xt_yes h h2, ← this]; simp

end Go.Proofs.YtjgkekgieodhnaaDoor.Gf

/- What GfMul, GfInv and GfDiv of the program and of the model answer, whatever they are given. -/
namespace Go.Proofs.YtjgkekgieodhnaaDoor.Gf
open Go.RowKit

theorem el_nat {a : Int} (h : el a = true) : ∃ n : Nat, a = n ∧ n < 256 := by
  simp [el] at h; exact ⟨a.toNat, by omega, by omega⟩
theorem el_of {n : Nat} (h : n < 256) : el (n : Int) = true := by simp [el]; omega
theorem mulZ_nat {a b : Nat} (ha : a < 256) (hb : b < 256) : mulZ a b = (mul a b : Nat) := by
  simp [mulZ, el_of ha, el_of hb]
theorem mulZ_no {a b : Int} (h : ¬ (el a = true ∧ el b = true)) : mulZ a b = 0 := by
  unfold mulZ; rw [if_neg]; simpa using h

def invZ (a : Int) : Int := if el a && decide (a ≠ 0) then (inv a.toNat : Nat) else 0
theorem invZ_nat {a : Nat} (ha : a < 256) : invZ a = (inv a : Nat) := by
  by_cases h : a = 0
  · subst h; rw [inv_zero]; rfl
  · simp only [invZ, el_of ha]; rw [if_pos (by simp; omega)]; rfl
theorem invZ_no {a : Int} (h : el a = false) : invZ a = 0 := by simp [invZ, h]
theorem invZ_zero : invZ 0 = 0 := rfl
def divZ (a b : Int) : Int := mulZ a (invZ b)
theorem divZ_nat {a b : Nat} (ha : a < 256) (hb : b < 256) : divZ a b = (mul a (inv b) : Nat) := by
  unfold divZ; rw [invZ_nat hb, mulZ_nat ha (inv_lt hb)]
theorem mulZ_zero (a : Int) : mulZ a 0 = 0 := by
  unfold mulZ; split
  · simp [mul_zero]
  · rfl

/-- is it from low to high? -/
def isB (n l h : Int) : Bool := decide (l ≤ n ∧ n ≤ h)
theorem l05Is_any (n l h : Int) (w : World) : Calls Tryd.prog 20 #[.int .i64 n, .int .i64 l, .int .i64 h] w fun e w' => e = .returned (.bool (isB n l h)) ∧ w = w' := by
  by_cases h0 : l ≤ n
  · by_cases h1 : n ≤ h
    · have hh : isB n l h = true := by simp [isB, h0, h1]
      go_enter Tryd.func20, Tryd.ntmps20
      go_wp2
      go_ret
      simp_all
    · have hh : isB n l h = false := by simp [isB]; omega
      go_enter Tryd.func20, Tryd.ntmps20
      go_wp2
      go_ret
      simp_all
  · have hh : isB n l h = false := by simp [isB]; omega
    go_enter Tryd.func20, Tryd.ntmps20
    go_wp2
    go_ret
    simp_all
theorem invTo_s1 (k a : Nat) : (invTo (k + 1) a).2 = mul (invTo k a).2 (invTo k a).2 := rfl
theorem invTo_s0 (k a : Nat) : (invTo (k + 1) a).1 = mul (invTo k a).1 (invTo (k + 1) a).2 := rfl

theorem is1_yes {m : Nat} (hm : m < 256) (h0 : ¬ m = 0) : isB (m : Int) 1 255 = true := by simp [isB]; omega
theorem is1_no {a : Int} (h : el a = false) : isB a 1 255 = false := by simp [isB, el] at *; omega

end Go.Proofs.YtjgkekgieodhnaaDoor.Gf

/- The line through places of chapter 6 as a function of numbers, and lists of numbers in memory. -/
namespace Go.Proofs.YtjgkekgieodhnaaDoor.Gf
open Go.RowKit Go.Proofs.YtjgkekgieodhnaaDoor.Mem

/-- what the value at place i counts at t, the first k places looked at -/
def wt (xs : List Nat) (t i : Nat) : Nat → Nat
  | 0 => 1
  | k + 1 => if k = i then wt xs t i k else mul (wt xs t i k) (mul (t ^^^ xs.getD k 0) (inv (xs.getD i 0 ^^^ xs.getD k 0)))
def weight (xs : List Nat) (t i : Nat) : Nat := wt xs t i xs.length
theorem wt_lt (xs : List Nat) (t i : Nat) : ∀ k, wt xs t i k < 256
  | 0 => by simp [wt]
  | k + 1 => by
    unfold wt; split
    · exact wt_lt xs t i k
    · exact mul_lt (wt_lt xs t i k)
theorem weight_lt (xs : List Nat) (t i : Nat) : weight xs t i < 256 := wt_lt _ _ _ _
def weights (xs : List Nat) (t k : Nat) : List Nat := (List.range k).map (weight xs t)
theorem weights_len (xs : List Nat) (t k : Nat) : (weights xs t k).length = k := by simp [weights]
theorem weights_succ (xs : List Nat) (t k : Nat) : weights xs t (k + 1) = weights xs t k ++ [weight xs t k] := by simp [weights, List.range_succ]
theorem weights_at (xs : List Nat) (t k i : Nat) (h : i < (weights xs t k).length) : (weights xs t k)[i] = weight xs t i := by simp [weights]
/-- the sum of values, each as often as c says; of places from 0 to k -/
def sumTo (c y : Nat → Nat) : Nat → Nat
  | 0 => 0
  | k + 1 => sumTo c y k ^^^ mul (c k) (y k)
theorem sumTo_lt (c y : Nat → Nat) (hc : ∀ i, c i < 256) : ∀ k, sumTo c y k < 256
  | 0 => by simp [sumTo]
  | k + 1 => xor8 (sumTo_lt c y hc k) (mul_lt (hc k))
def line (xs ys : List Nat) (t : Nat) : Nat := sumTo (weight xs t) (fun i => ys.getD i 0) xs.length
def Els (xs : List Nat) : Prop := ∀ x ∈ xs, x < 256
theorem Els.at {xs : List Nat} (h : Els xs) {j : Nat} (hj : j < xs.length) : xs[j] < 256 := h _ (List.getElem_mem hj)

/-- The slice v reads as the numbers xs, each of kind k. -/
def NumsK (k : IntKind) (W : World) (v : Value) (xs : List Nat) : Prop :=
  ∃ a cap, v = .slice a xs.length cap ∧ ∀ j (h : j < xs.length), ∃ b o, a = some ⟨b, o, none⟩ ∧ W.cell? ⟨b, o + j, none⟩ = some (.int k (xs[j] : Nat))
theorem NumsK.below {k : IntKind} {W W' : World} {v : Value} {l : List Nat} (h : NumsK k W v l) (hb : Below W.heap.size W W') : NumsK k W' v l := by
  obtain ⟨a, cap, hv, hc⟩ := h
  refine ⟨a, cap, hv, fun j hj => ?_⟩
  obtain ⟨b, o, ha, hcell⟩ := hc j hj
  refine ⟨b, o, ha, ?_⟩
  rw [hb.cell (World.block_lt_of_cell? W _ hcell)]
  exact hcell
theorem nums_of_ints {W : World} {v : Value} {l : List Int} (h : Harn.Ints W v l) (h0 : ∀ x ∈ l, 0 ≤ x) : NumsK .i64 W v (l.map Int.toNat) := by
  obtain ⟨a, cap, hv, hc⟩ := h
  refine ⟨a, cap, by simpa using hv, fun j hj => ?_⟩
  have hj2 : j < l.length := by simpa using hj
  obtain ⟨b, o, ha, hcell⟩ := hc j hj2
  refine ⟨b, o, ha, ?_⟩
  rw [hcell]
  have := h0 _ (List.getElem_mem hj2)
  simp only [List.getElem_map]
  congr 2; omega
theorem NumsK.shape {k : IntKind} {W : World} {v : Value} {xs : List Nat} (h : NumsK k W v xs) : ∃ a cap, v = .slice a xs.length cap := ⟨_, _, h.choose_spec.choose_spec.1⟩

/-- The cells of numbers. -/
def ncells (k : IntKind) (xs : List Nat) : List Value := xs.map fun x => .int k (x : Nat)
theorem length_ncells (k : IntKind) (xs : List Nat) : (ncells k xs).length = xs.length := by simp [ncells]
theorem ncells_snoc (k : IntKind) (xs : List Nat) (x : Nat) : ncells k (xs ++ [x]) = ncells k xs ++ [.int k (x : Nat)] := by simp [ncells]
/-- A list of numbers that owns its row, or is nil. -/
def OwnN (k : IntKind) (T : TypeId) (W : World) (base : Nat) (v : Value) (xs : List Nat) : Prop := W.ownsRow base T 1 v xs.length (ncells k xs)
theorem OwnN.nums {k : IntKind} {T : TypeId} {W : World} {base : Nat} {v : Value} {xs : List Nat} (h : OwnN k T W base v xs) : NumsK k W v xs := by
  have h0 := h
  rcases h.2 with ⟨rfl, hn⟩ | ⟨g, cap, cur, rfl, _⟩
  · exact ⟨none, 0, by rw [hn], fun j hj => by omega⟩
  · refine ⟨_, cap, rfl, fun j hj => ⟨g, 0, rfl, ?_⟩⟩
    have := World.ownsRow.cellAt h0 j (by omega)
    rw [Nat.zero_add, this]
    simp [ncells, hj]
theorem OwnN.lt {k : IntKind} {T : TypeId} {W : World} {base : Nat} {v : Value} {xs : List Nat} (h : OwnN k T W base v xs) : ∀ g, v.ownBlock = some g → base ≤ g ∧ g < W.heap.size := World.ownsRow.lt h
theorem OwnN.same {k : IntKind} {T : TypeId} {W W' : World} {base B : Nat} {v : Value} {l : List Nat} (h : OwnN k T W base v l) (hb : ∀ g, v.ownBlock = some g → W'.heap[g]? = W.heap[g]?) (hB : B ≤ base) : OwnN k T W' B v l := by
  obtain ⟨h1, h2⟩ := h
  refine ⟨h1, ?_⟩
  rcases h2 with ⟨rfl, h2⟩ | ⟨g, cap, cur, rfl, e2, e3, e4⟩
  · exact .inl ⟨rfl, h2⟩
  · exact .inr ⟨g, cap, cur, rfl, by omega, (hb g rfl).trans e3, e4⟩
theorem OwnN.below {k : IntKind} {T : TypeId} {W W' : World} {base B : Nat} {v : Value} {l : List Nat} (h : OwnN k T W base v l) (hb : Below W.heap.size W W') (hB : B ≤ base) : OwnN k T W' B v l := h.same (fun g hg => hb.block g (h.lt g hg).2) hB
theorem OwnN.drewN {k : IntKind} {T : TypeId} {W : World} {base : Nat} {v : Value} {l : List Nat} (h : OwnN k T W base v l) (n : Nat) : OwnN k T (W.drewN n) base v l := h
theorem ownN_empty (k : IntKind) (T : TypeId) (w : World) (base : Nat) (h : base ≤ w.heap.size) : OwnN k T (w.alloc (.cells #[] T)) base (.slice (some ⟨w.heap.size, 0, none⟩) 0 0) [] :=
  w.ownsRow_made #[] 0 h (by unfold maxLen; omega) (by simp)

theorem addr_add0 (b j : Nat) : (⟨b, 0, none⟩ : Addr).add j = ⟨b, j, none⟩ := by unfold Addr.add; split <;> simp_all
theorem infoI64' : (Tryd.prog.info? 2).map (fun i => (i.zero, i.size, i.bytes)) = some (some (.int .i64 0), 1, 8) := by kernel_rfl
/-- a call of 'append' whose run is known -/
theorem wp_app1 {P : Program} {w : World} {ops : Array Oper} {rest : List Oper} {o : Oper} {a : Act} {Q : Exit → Act → World → Prop} (hgd : o.guard = none) (s x : Operand) (t : TypeId)
    (ho : o.op = .call { callee := .builtin .append, args := #[s, x], argTypes := #[t, t] }) (v u r : Value) (w' : World) (hs : a.eval s = v) (hx : a.eval x = u)
    (hr : (Builtin.append_ #[t, t] o.type #[v, u]).run P w = .ok r w') (h : wpList P ops Q rest (a.put o.dst r) w') : wpList P ops Q (o :: rest) a w :=
  wpList_plain hgd fun _ hK => by
    unfold Oper.wp execOp
    simp only [ho, resolve, invoke, builtin, Sem.run_bind, Sem.run_pure, Result.andThen_ok, List.map_toArray, List.map_cons, List.map_nil, hs, hx, hr]
    exact hK _ _ h
theorem cell_new (W : World) (v : Value) (T : TypeId) : (W.alloc (.cells #[v] T)).cell? ⟨W.heap.size, 0, none⟩ = some v := by simp
theorem size_new {B : Nat} {W : World} (h : B ≤ W.heap.size) (o : Obj) : B ≤ (W.alloc o).heap.size := by simp; omega
end Go.Proofs.YtjgkekgieodhnaaDoor.Gf

/- What the model's weights answer. -/
namespace Go.Proofs.YtjgkekgieodhnaaDoor.Gf
open Go.RowKit Go.Proofs.YtjgkekgieodhnaaDoor.Mem

theorem xorN {a b : Nat} (ha : a < 256) (hb : b < 256) : bits .xor .i64 (a : Int) (b : Int) = ((a ^^^ b : Nat) : Int) := xor64 (by omega) (by omega)
theorem getD_at {xs : List Nat} {j : Nat} (h : j < xs.length) : xs.getD j 0 = xs[j] := by simp [List.getD, h]

end Go.Proofs.YtjgkekgieodhnaaDoor.Gf

/- What Interp asks and answers, as a function of lists of numbers. -/
namespace Go.Proofs.YtjgkekgieodhnaaDoor.Gf
open Go.RowKit Go.Proofs.YtjgkekgieodhnaaDoor.Mem

def okAt (xs ys : List Int) (i : Nat) : Bool := el (xs.getD i 0) && el (ys.getD i 0) && (List.range i).all fun j => decide (xs.getD j 0 ≠ xs.getD i 0)
def okAll (xs ys : List Int) : Bool := (List.range xs.length).all (okAt xs ys)
def headOk (xs ys : List Int) (t : Int) : Bool := decide (1 ≤ xs.length) && decide (xs.length ≤ 10) && decide (ys.length = xs.length) && el t
def lineOk (xs ys : List Int) (t : Int) : Bool := headOk xs ys t && okAll xs ys
def interpZ (xs ys : List Int) (t : Int) : Int := if lineOk xs ys t then (line (xs.map Int.toNat) (ys.map Int.toNat) t.toNat : Nat) else 0

theorem getZ {xs : List Int} {j : Nat} (h : j < xs.length) : xs.getD j 0 = xs[j] := by simp [List.getD, h]
theorem okAt_no1 {xs ys : List Int} {i : Nat} (h : el (xs.getD i 0) = false) : okAt xs ys i = false := by unfold okAt; rw [h]; rfl
theorem okAt_no2 {xs ys : List Int} {i : Nat} (h : el (ys.getD i 0) = false) : okAt xs ys i = false := by unfold okAt; rw [h, Bool.and_false]; rfl
theorem okAt_no3 {xs ys : List Int} {i j : Nat} (hj : j < i) (h : xs.getD j 0 = xs.getD i 0) : okAt xs ys i = false := by
  have : ((List.range i).all fun j => decide (xs.getD j 0 ≠ xs.getD i 0)) = false := by
    rw [List.all_eq_false]
    exact ⟨j, by simpa using hj, by rw [h]; simp⟩
  unfold okAt; rw [this]; simp
theorem okAt_yes {xs ys : List Int} {i : Nat} (h1 : el (xs.getD i 0) = true) (h2 : el (ys.getD i 0) = true) (h : ∀ j, j < i → xs.getD j 0 ≠ xs.getD i 0) : okAt xs ys i = true := by
  unfold okAt
  rw [h1, h2, Bool.and_self, Bool.true_and, List.all_eq_true]
  intro j hj
  simpa using h j (by simpa using hj)
theorem okAll_no {xs ys : List Int} {i : Nat} (hi : i < xs.length) (h : okAt xs ys i = false) : okAll xs ys = false := by
  unfold okAll
  rw [List.all_eq_false]
  exact ⟨i, by simpa using hi, by simp [h]⟩
theorem okAll_yes {xs ys : List Int} (h : ∀ i, i < xs.length → okAt xs ys i = true) : okAll xs ys = true := by
  unfold okAll
  rw [List.all_eq_true]
  intro i hi
  exact h i (by simpa using hi)
theorem okAt_el1 {xs ys : List Int} {i : Nat} (h : okAt xs ys i = true) : el (xs.getD i 0) = true := by unfold okAt at h; rw [Bool.and_eq_true, Bool.and_eq_true] at h; exact h.1.1
theorem okAt_el2 {xs ys : List Int} {i : Nat} (h : okAt xs ys i = true) : el (ys.getD i 0) = true := by unfold okAt at h; rw [Bool.and_eq_true, Bool.and_eq_true] at h; exact h.1.2
theorem okAt_ne {xs ys : List Int} {i : Nat} (h : okAt xs ys i = true) (j : Nat) (hj : j < i) : xs.getD j 0 ≠ xs.getD i 0 := by
  unfold okAt at h
  rw [Bool.and_eq_true, List.all_eq_true] at h
  have := h.2 j (by simpa using hj)
  simpa using this
theorem okAll_at {xs ys : List Int} (h : okAll xs ys = true) (i : Nat) (hi : i < xs.length) : okAt xs ys i = true := by
  unfold okAll at h
  rw [List.all_eq_true] at h
  exact h i (by simpa using hi)
theorem interp_no {xs ys : List Int} {t : Int} (h : lineOk xs ys t = false) : interpZ xs ys t = 0 := by unfold interpZ; rw [h]; rfl
theorem interp_no' {xs ys : List Int} {t : Int} {i : Nat} (hi : i < xs.length) (h : okAt xs ys i = false) : interpZ xs ys t = 0 := by
  apply interp_no; unfold lineOk; rw [okAll_no hi h]; simp
theorem interp_yes {xs ys : List Int} {t : Int} (hh : headOk xs ys t = true) (h : ∀ i, i < xs.length → okAt xs ys i = true) : interpZ xs ys t = (line (xs.map Int.toNat) (ys.map Int.toNat) t.toNat : Nat) := by
  unfold interpZ; rw [if_pos]; unfold lineOk; rw [hh, okAll_yes h]; rfl
theorem el_bd {a : Int} (h : el a = true) : 0 ≤ a ∧ a ≤ 255 := by simpa [el] using h
theorem els_of {xs ys : List Int} (hl : ys.length = xs.length) (h : ∀ i, i < xs.length → okAt xs ys i = true) : (∀ x ∈ xs, 0 ≤ x) ∧ (∀ x ∈ ys, 0 ≤ x) ∧ Els (xs.map Int.toNat) ∧ Els (ys.map Int.toNat) := by
  have h1 : ∀ x ∈ xs, 0 ≤ x ∧ x ≤ 255 := fun x hx => by
    obtain ⟨i, hi, rfl⟩ := List.getElem_of_mem hx
    have := el_bd (okAt_el1 (h i hi)); rwa [getZ hi] at this
  have h2 : ∀ x ∈ ys, 0 ≤ x ∧ x ≤ 255 := fun x hx => by
    obtain ⟨i, hi, rfl⟩ := List.getElem_of_mem hx
    have := el_bd (okAt_el2 (h i (by omega))); rwa [getZ hi] at this
  refine ⟨fun x hx => (h1 x hx).1, fun x hx => (h2 x hx).1, fun x hx => ?_, fun x hx => ?_⟩
  · obtain ⟨y, hy, rfl⟩ := List.mem_map.1 hx; have := h1 y hy; omega
  · obtain ⟨y, hy, rfl⟩ := List.mem_map.1 hx; have := h2 y hy; omega
theorem headOk_parts {xs ys : List Int} {t : Int} (h : headOk xs ys t = true) : 1 ≤ xs.length ∧ xs.length ≤ 10 ∧ ys.length = xs.length ∧ el t = true := by
  unfold headOk at h; simp only [Bool.and_eq_true, decide_eq_true_eq] at h; exact ⟨h.1.1.1, h.1.1.2, h.1.2, h.2⟩
theorem headOk_not {xs ys : List Int} {t : Int} (h : headOk xs ys t = false) : xs.length < 1 ∨ (¬ xs.length < 1 ∧ 10 < xs.length) ∨ (¬ xs.length < 1 ∧ ¬ 10 < xs.length ∧ ¬ ys.length = xs.length) ∨ (¬ xs.length < 1 ∧ ¬ 10 < xs.length ∧ ys.length = xs.length ∧ el t = false) := by
  by_cases h1 : xs.length < 1
  · exact .inl h1
  · by_cases h2 : 10 < xs.length
    · exact .inr (.inl ⟨h1, h2⟩)
    · by_cases h3 : ys.length = xs.length
      · refine .inr (.inr (.inr ⟨h1, h2, h3, ?_⟩))
        have a1 : decide (1 ≤ xs.length) = true := decide_eq_true (by omega)
        have a2 : decide (xs.length ≤ 10) = true := decide_eq_true (by omega)
        have a3 : decide (ys.length = xs.length) = true := decide_eq_true h3
        unfold headOk at h
        rw [a1, a2, a3] at h; simpa using h
      · exact .inr (.inr (.inl ⟨h1, h2, h3⟩))
theorem interp_head {xs ys : List Int} {t : Int} (h : headOk xs ys t = false) : interpZ xs ys t = 0 := by
  apply interp_no; unfold lineOk; rw [h]; rfl
theorem sumTo_map (xs ys : List Int) (t : Nat) (k : Nat) (hk : k < ys.length) (y : Nat) (hy : ys[k] = (y : Nat)) :
    sumTo (weight (xs.map Int.toNat) t) (fun i => (ys.map Int.toNat).getD i 0) (k + 1) = sumTo (weight (xs.map Int.toNat) t) (fun i => (ys.map Int.toNat).getD i 0) k ^^^ mul (weight (xs.map Int.toNat) t k) y := by
  rw [sumTo]
  have : (ys.map Int.toNat).getD k 0 = y := by simp [List.getD, hk, hy]
  rw [this]
end Go.Proofs.YtjgkekgieodhnaaDoor.Gf

/- What the program's lineRight answers. -/
namespace Go.Proofs.YtjgkekgieodhnaaDoor.Gf
open Go.RowKit Go.Proofs.YtjgkekgieodhnaaDoor.Mem

theorem lineOk_yes {xs ys : List Int} {t : Int} (hh : headOk xs ys t = true) (h : ∀ i, i < xs.length → okAt xs ys i = true) : lineOk xs ys t = true := by unfold lineOk; rw [hh, okAll_yes h]; rfl
theorem lineOk_no {xs ys : List Int} {t : Int} {i : Nat} (hi : i < xs.length) (h : okAt xs ys i = false) : lineOk xs ys t = false := by unfold lineOk; rw [okAll_no hi h]; simp
theorem lineOk_head {xs ys : List Int} {t : Int} (h : headOk xs ys t = false) : lineOk xs ys t = false := by unfold lineOk; rw [h]; rfl

end Go.Proofs.YtjgkekgieodhnaaDoor.Gf

/- What the program's closure of weights answers, and sums of pieces as lists. -/
namespace Go.Proofs.YtjgkekgieodhnaaDoor.Gf
open Go.RowKit Go.Proofs.YtjgkekgieodhnaaDoor.Mem

/-- What the closure of weights holds: the places xs, and a place t. -/
def Clos (w : World) (bx bt : Nat) (xs : List Nat) (t : Nat) : Prop := ∃ vx, w.cell? ⟨bx, 0, none⟩ = some vx ∧ w.cell? ⟨bt, 0, none⟩ = some (.int .i64 (t : Nat)) ∧ NumsK .i64 w vx xs
theorem Clos.below {w W : World} {bx bt : Nat} {xs : List Nat} {t : Nat} (h : Clos w bx bt xs t) (hb : Below w.heap.size w W) : Clos W bx bt xs t := by
  obtain ⟨vx, h1, h2, h3⟩ := h
  exact ⟨vx, (hb.cell (World.block_lt_of_cell? w _ h1)).trans h1, (hb.cell (World.block_lt_of_cell? w _ h2)).trans h2, h3.below hb⟩

/-- The value v reads as the lists ps of numbers of kind k. -/
def Lists (k : IntKind) (W : World) (v : Value) (ps : List (List Nat)) : Prop :=
  ∃ a cap, v = .slice a ps.length cap ∧ ∀ j (h : j < ps.length), ∃ b o u, a = some ⟨b, o, none⟩ ∧ W.cell? ⟨b, o + j, none⟩ = some u ∧ NumsK k W u ps[j]
theorem Lists.below {k : IntKind} {W W' : World} {v : Value} {l : List (List Nat)} (h : Lists k W v l) (hb : Below W.heap.size W W') : Lists k W' v l := by
  obtain ⟨a, cap, hv, hc⟩ := h
  refine ⟨a, cap, hv, fun j hj => ?_⟩
  obtain ⟨b, o, u, ha, hcell, hn⟩ := hc j hj
  exact ⟨b, o, u, ha, (hb.cell (World.block_lt_of_cell? W _ hcell)).trans hcell, hn.below hb⟩

/-- the sum of the pieces at place j, each as often as c says; the first k of them -/
def mixAt (c : Nat → Nat) (ps : List (List Nat)) (j k : Nat) : Nat := sumTo c (fun i => (ps.getD i []).getD j 0) k
/-- the sum in the midst: at the first m places one piece more -/
def mixRow (c : Nat → Nat) (ps : List (List Nat)) (L i m : Nat) : List Nat := (List.range L).map fun j => if j < m then mixAt c ps j (i + 1) else mixAt c ps j i
def mixed (c : Nat → Nat) (ps : List (List Nat)) (L : Nat) : List Nat := (List.range L).map fun j => mixAt c ps j ps.length
theorem length_mixRow (c : Nat → Nat) (ps : List (List Nat)) (L i m : Nat) : (mixRow c ps L i m).length = L := by simp [mixRow]
theorem mixRow_start (c : Nat → Nat) (ps : List (List Nat)) (L : Nat) (k : IntKind) : ncells k (mixRow c ps L 0 0) = List.replicate L (.int k 0) := by
  apply List.ext_getElem
  · simp [ncells, mixRow]
  · intro j h1 h2; simp [ncells, mixRow, mixAt, sumTo]
theorem mixRow_next (c : Nat → Nat) (ps : List (List Nat)) (L i : Nat) : mixRow c ps L i L = mixRow c ps L (i + 1) 0 := by
  unfold mixRow
  apply List.map_congr_left
  intro j hj
  have : j < L := by simpa using hj
  simp [this]
theorem mixRow_end (c : Nat → Nat) (ps : List (List Nat)) (L : Nat) : mixRow c ps L ps.length 0 = mixed c ps L := by
  unfold mixRow mixed
  apply List.map_congr_left
  intro j hj
  simp
theorem mixRow_at (c : Nat → Nat) (ps : List (List Nat)) (L i m : Nat) (k : IntKind) (hm : m < L) : (ncells k (mixRow c ps L i m))[m]? = some (.int k (mixAt c ps m i : Nat)) := by
  simp [ncells, mixRow, hm]
theorem mixRow_set (c : Nat → Nat) (ps : List (List Nat)) (L i m : Nat) (k : IntKind) : (ncells k (mixRow c ps L i m)).set m (.int k (mixAt c ps m (i + 1) : Nat)) = ncells k (mixRow c ps L i (m + 1)) := by
  apply List.ext_getElem
  · simp [ncells, mixRow]
  · intro j h1 h2
    by_cases e : m = j
    · subst e; simp [ncells, mixRow]
    · rw [List.getElem_set_ne e]
      by_cases e2 : j < m
      · have : j < m + 1 := by omega
        simp [ncells, mixRow, e2, this]
      · have : ¬ j < m + 1 := by omega
        simp [ncells, mixRow, e2, this]
theorem mixAt_succ (c : Nat → Nat) (ps : List (List Nat)) (m i : Nat) (hi : i < ps.length) (hm : m < ps[i].length) : mixAt c ps m (i + 1) = mixAt c ps m i ^^^ mul (c i) ps[i][m] := by
  unfold mixAt
  rw [sumTo]
  simp [List.getD, hi, hm]
theorem mixAt_lt (c : Nat → Nat) (ps : List (List Nat)) (j k : Nat) (hc : ∀ i, c i < 256) : mixAt c ps j k < 256 := sumTo_lt _ _ hc _
end Go.Proofs.YtjgkekgieodhnaaDoor.Gf

/- Spread as a function of lists of numbers and of texts. -/
namespace Go.Proofs.YtjgkekgieodhnaaDoor.Gf
open Go.RowKit

def toB (l : List Nat) : ByteArray := ⟨(l.map UInt8.ofNat).toArray⟩
def nb (s : ByteArray) : List Nat := s.data.toList.map UInt8.toNat
theorem nb_len (s : ByteArray) : (nb s).length = s.size := by simp [nb]
theorem toB_size (l : List Nat) : (toB l).size = l.length := by unfold toB; show (Array.size _) = _; simp
theorem nb_els (s : ByteArray) : Els (nb s) := fun x hx => by
  obtain ⟨b, _, rfl⟩ := List.mem_map.1 hx; exact b.toNat_lt
theorem toB_nb (s : ByteArray) : toB (nb s) = s := by
  apply ByteArray.ext
  simp [toB, nb, Function.comp_def]
theorem nb_toB {l : List Nat} (h : Els l) : nb (toB l) = l := by
  unfold nb toB
  simp only [List.map_map]
  have : ∀ x ∈ l, (UInt8.toNat ∘ UInt8.ofNat) x = x := fun x hx => by
    have := h x hx
    simp; omega
  rw [List.map_congr_left this]; simp
theorem nb_at (s : ByteArray) (k : Nat) (h : k < s.size) : (nb s)[k]'(by rw [nb_len]; exact h) = (s[k]).toNat := by simp [nb]; rfl

def plen (need size : Nat) : Nat := (size + need - 1) / need
theorem plen_ge {need size : Nat} (h : 0 < need) : size ≤ need * plen need size := by
  unfold plen
  have := Nat.div_add_mod (size + need - 1) need
  have := Nat.mod_lt (size + need - 1) h
  omega
theorem plen_le (need size : Nat) : need * plen need size ≤ size + need - 1 := Nat.mul_div_le _ _
theorem plen_pos {need size : Nat} (h : 0 < need) (h2 : 0 < size) : 0 < plen need size := by
  unfold plen; exact Nat.div_pos (by omega) h
theorem plen_small {need size : Nat} (h : 0 < need) : plen need size ≤ size + need := by
  unfold plen; exact Nat.le_trans (Nat.div_le_self _ _) (by omega)
def pad (s : List Nat) (need : Nat) : List Nat := s ++ List.replicate (need * plen need s.length - s.length) 0
theorem pad_len {s : List Nat} {need : Nat} (h : 0 < need) : (pad s need).length = need * plen need s.length := by
  have := plen_ge (size := s.length) h
  simp [pad]; omega
def cutL (s : List Nat) (need i : Nat) : List Nat := ((pad s need).drop (i * plen need s.length)).take (plen need s.length)
theorem cut_room {need L i : Nat} (h : i < need) : i * L + L ≤ need * L := by
  have : (i + 1) * L ≤ need * L := Nat.mul_le_mul (by omega) (Nat.le_refl _)
  rw [Nat.add_mul] at this; omega
theorem cutL_len {s : List Nat} {need i : Nat} (h : i < need) : (cutL s need i).length = plen need s.length := by
  have := cut_room (L := plen need s.length) h
  have := pad_len (s := s) (need := need) (by omega)
  simp [cutL]; omega
theorem pad_els {s : List Nat} (h : Els s) (need : Nat) : Els (pad s need) := fun x hx => by
  rcases List.mem_append.1 hx with h1 | h1
  · exact h x h1
  · have := (List.mem_replicate.1 h1).2; omega
theorem cutL_els {s : List Nat} (h : Els s) (need i : Nat) : Els (cutL s need i) := fun x hx => pad_els h need x (List.mem_of_mem_drop (List.mem_of_mem_take hx))
def firsts (s : List Nat) (need : Nat) : List (List Nat) := (List.range need).map (cutL s need)
/-- the further piece of the number need + i -/
def rest1 (ps : List (List Nat)) (need L i : Nat) : List Nat := mixed (weight (List.range need) (need + i)) ps L
def rests (ps : List (List Nat)) (need L more : Nat) : List (List Nat) := (List.range more).map (rest1 ps need L)
def spreadL (s : List Nat) (need more : Nat) : List (List Nat) := firsts s need ++ rests (firsts s need) need (plen need s.length) more
theorem firsts_len (s : List Nat) (need : Nat) : (firsts s need).length = need := by simp [firsts]
theorem spreadL_len (s : List Nat) (need more : Nat) : (spreadL s need more).length = need + more := by simp [spreadL, firsts, rests]
theorem mixed_len (c : Nat → Nat) (ps : List (List Nat)) (L : Nat) : (mixed c ps L).length = L := by simp [mixed]
theorem mixed_els (c : Nat → Nat) (ps : List (List Nat)) (L : Nat) (h : ∀ i, c i < 256) : Els (mixed c ps L) := fun x hx => by
  obtain ⟨j, _, rfl⟩ := List.mem_map.1 hx; exact mixAt_lt _ _ _ _ h
theorem firsts_all (s : List Nat) (need : Nat) : ∀ p ∈ firsts s need, p.length = plen need s.length := fun p hp => by
  obtain ⟨i, hi, rfl⟩ := List.mem_map.1 hp; exact cutL_len (by simpa using hi)
theorem firsts_els {s : List Nat} (h : Els s) (need : Nat) : ∀ p ∈ firsts s need, Els p := fun p hp => by
  obtain ⟨i, hi, rfl⟩ := List.mem_map.1 hp; exact cutL_els h _ _
theorem firsts_succ (s : List Nat) (need k : Nat) : (List.range (k + 1)).map (cutL s need) = (List.range k).map (cutL s need) ++ [cutL s need k] := by simp [List.range_succ]
theorem rests_succ (ps : List (List Nat)) (need L k : Nat) : rests ps need L (k + 1) = rests ps need L k ++ [rest1 ps need L k] := by simp [rests, List.range_succ]
theorem range_els {n : Nat} (h : n ≤ 256) : Els (List.range n) := fun x hx => by
  have h2 : x < n := by simpa using hx
  omega
/-- may a group be so? -/
def fineB (need more size : Int) : Bool := isB need 1 6 && isB more 0 4 && isB size 1 100
def spreadO (t : ByteArray) (need more : Int) : List ByteArray := if fineB need more t.size then (spreadL (nb t) need.toNat more.toNat).map toB else []
theorem fine_parts {need more size : Int} (h : fineB need more size = true) : ∃ n m s : Nat, need = n ∧ more = m ∧ size = s ∧ 1 ≤ n ∧ n ≤ 6 ∧ m ≤ 4 ∧ 1 ≤ s ∧ s ≤ 100 := by
  simp only [fineB, isB, Bool.and_eq_true, decide_eq_true_eq] at h
  exact ⟨need.toNat, more.toNat, size.toNat, by omega, by omega, by omega, by omega, by omega, by omega, by omega, by omega⟩
end Go.Proofs.YtjgkekgieodhnaaDoor.Gf

/- A frame as eight cells, and when it is right. -/
namespace Go.Proofs.YtjgkekgieodhnaaDoor.Frm
open Go.RowKit Go.Proofs.YtjgkekgieodhnaaDoor.Gf

/-- A frame: its six numbers, its shard's Index and its Data. -/
structure Fr where
  o : Int
  g : Int
  gs : Int
  n : Int
  m : Int
  s : Int
  x : Int
  t : ByteArray
def Fr.val (f : Fr) : Value := .agg #[.int .i64 f.o, .int .i64 f.g, .int .i64 f.gs, .int .i64 f.n, .int .i64 f.m, .int .i64 f.s, .int .i64 f.x, .string f.t]
def Fr.right (f : Fr) : Bool := isB f.o 1 1000000 && isB f.gs 1 9 && isB f.g 0 (f.gs - 1) && fineB f.n f.m f.s && isB f.x 0 (f.n + f.m - 1) && decide (f.t.size = plen f.n.toNat f.s.toNat)
theorem isB_iff {n l h : Int} : isB n l h = true ↔ l ≤ n ∧ n ≤ h := by simp [isB]
theorem isB_no {n l h : Int} : isB n l h = false ↔ ¬ (l ≤ n ∧ n ≤ h) := by simp [isB]
/-- where the first fault lies -/
theorem Fr.cases (f : Fr) : (isB f.o 1 1000000 = false ∧ f.right = false) ∨ (isB f.o 1 1000000 = true ∧ isB f.gs 1 9 = false ∧ f.right = false) ∨ (isB f.o 1 1000000 = true ∧ isB f.gs 1 9 = true ∧ isB f.g 0 (f.gs - 1) = false ∧ f.right = false) ∨ (isB f.o 1 1000000 = true ∧ isB f.gs 1 9 = true ∧ isB f.g 0 (f.gs - 1) = true ∧ fineB f.n f.m f.s = false ∧ f.right = false) ∨ (isB f.o 1 1000000 = true ∧ isB f.gs 1 9 = true ∧ isB f.g 0 (f.gs - 1) = true ∧ fineB f.n f.m f.s = true ∧ isB f.x 0 (f.n + f.m - 1) = false ∧ f.right = false) ∨ (isB f.o 1 1000000 = true ∧ isB f.gs 1 9 = true ∧ isB f.g 0 (f.gs - 1) = true ∧ fineB f.n f.m f.s = true ∧ isB f.x 0 (f.n + f.m - 1) = true ∧ f.right = decide (f.t.size = plen f.n.toNat f.s.toNat)) := by
  unfold Fr.right
  cases isB f.o 1 1000000 <;> cases isB f.gs 1 9 <;> cases isB f.g 0 (f.gs - 1) <;> cases fineB f.n f.m f.s <;> cases isB f.x 0 (f.n + f.m - 1) <;> simp
end Go.Proofs.YtjgkekgieodhnaaDoor.Frm

/- The bytes of a frame as lists of texts; texts put together. -/
namespace Go.Proofs.YtjgkekgieodhnaaDoor.Frm
open Go.RowKit Go.Proofs.YtjgkekgieodhnaaDoor.Gf

def Fr.nums (f : Fr) : List Int := [f.o, f.g, f.gs, f.n, f.m, f.s, f.x]
/-- texts put together -/
def catB : List ByteArray → ByteArray
  | [] => ByteArray.empty
  | t :: l => t ++ catB l
theorem catB_snoc (l : List ByteArray) (t : ByteArray) : catB (l ++ [t]) = catB l ++ t := by
  induction l with
  | nil => apply ByteArray.ext; simp [catB]
  | cons a l ih => simp only [List.cons_append, catB, ih]; apply ByteArray.ext; simp
def catS : List ByteArray → Nat
  | [] => 0
  | t :: l => t.size + catS l
theorem catB_size (l : List ByteArray) : (catB l).size = catS l := by
  induction l with
  | nil => rfl
  | cons a l ih => simp [catB, catS, ByteArray.size_append, ih]
theorem catS_take (l : List ByteArray) (k : Nat) : catS (l.take k) ≤ catS l := by
  induction l generalizing k with
  | nil => simp [catS]
  | cons a l ih =>
    cases k with
    | zero => simp [catS]
    | succ k => have := ih k; simp [catS]; omega
theorem catS_app (l l' : List ByteArray) : catS (l ++ l') = catS l + catS l' := by
  induction l with
  | nil => simp [catS]
  | cons a l ih => simp [catS, ih]; omega
/-- the texts of which a frame's bytes are put together -/
def Fr.texts (f : Fr) : List ByteArray := f.nums.map PutNum.numB ++ [PutText.textB f.t]
def Fr.bytes (f : Fr) : ByteArray := Seal.sealB (catB f.texts)
def Fr.out (f : Fr) : ByteArray := if f.right then f.bytes else ByteArray.empty
theorem numB_size (n : Int) : 1 ≤ (PutNum.numB n).size ∧ (PutNum.numB n).size ≤ 10 := by
  obtain ⟨h1, h2⟩ := PutNum.length_numL n
  have : (PutNum.numB n).size = (PutNum.numL n).length := rfl
  omega
/-- what is known of a right frame -/
theorem Fr.bounds {f : Fr} (h : f.right = true) : (1 ≤ f.o ∧ f.o ≤ 1000000) ∧ (0 ≤ f.g ∧ f.g ≤ 8) ∧ (1 ≤ f.gs ∧ f.gs ≤ 9) ∧ (1 ≤ f.n ∧ f.n ≤ 6) ∧ (0 ≤ f.m ∧ f.m ≤ 4) ∧ (1 ≤ f.s ∧ f.s ≤ 100) ∧ (0 ≤ f.x ∧ f.x ≤ 9) ∧ f.t.size ≤ 106 := by
  unfold Fr.right at h
  simp only [Bool.and_eq_true, decide_eq_true_eq] at h
  obtain ⟨⟨⟨⟨⟨h1, h2⟩, h3⟩, h4⟩, h5⟩, h6⟩ := h
  obtain ⟨n', m', s', e1, e2, e3, q1, q2, q3, q4, q5⟩ := fine_parts h4
  have a1 := isB_iff.1 h1
  have a2 := isB_iff.1 h2
  have a3 := isB_iff.1 h3
  have a5 := isB_iff.1 h5
  have a6 : f.t.size = plen n' s' := by rw [h6, e1, e3]; simp
  have a7 := plen_small (need := n') (size := s') (by omega)
  refine ⟨a1, ⟨by omega, by omega⟩, a2, ⟨by omega, by omega⟩, ⟨by omega, by omega⟩, ⟨by omega, by omega⟩, ⟨by omega, by omega⟩, by omega⟩
theorem Fr.texts_size {f : Fr} (h : f.t.size ≤ 1000) : catS f.texts ≤ 1080 := by
  have h0 := (numB_size f.o).2
  have h1 := (numB_size f.g).2
  have h2 := (numB_size f.gs).2
  have h3 := (numB_size f.n).2
  have h4 := (numB_size f.m).2
  have h5 := (numB_size f.s).2
  have h6 := (numB_size f.x).2
  have h7 := (numB_size (f.t.size : Nat)).2
  simp only [Fr.texts, Fr.nums, List.map_cons, List.map_nil, List.cons_append, List.nil_append, catS, PutText.textB, ByteArray.size_append]
  omega
end Go.Proofs.YtjgkekgieodhnaaDoor.Frm

/- A list of values of one cell each that the call itself appends to; texts. -/
namespace Go.Proofs.YtjgkekgieodhnaaDoor.Gf
open Go.RowKit Go.Proofs.YtjgkekgieodhnaaDoor.Mem Go.Proofs.YtjgkekgieodhnaaDoor.Harn

def OwnV (T : TypeId) (W : World) (base : Nat) (v : Value) (cs : List Value) : Prop := W.ownsRow base T 1 v cs.length cs
theorem OwnV.lt {T : TypeId} {W : World} {base : Nat} {v : Value} {cs : List Value} (h : OwnV T W base v cs) : ∀ g, v.ownBlock = some g → base ≤ g ∧ g < W.heap.size := World.ownsRow.lt h
theorem OwnV.same {T : TypeId} {W W' : World} {base B : Nat} {v : Value} {l : List Value} (h : OwnV T W base v l) (hb : ∀ g, v.ownBlock = some g → W'.heap[g]? = W.heap[g]?) (hB : B ≤ base) : OwnV T W' B v l := by
  obtain ⟨h1, h2⟩ := h
  refine ⟨h1, ?_⟩
  rcases h2 with ⟨rfl, h2⟩ | ⟨g, cap, cur, rfl, e2, e3, e4⟩
  · exact .inl ⟨rfl, h2⟩
  · exact .inr ⟨g, cap, cur, rfl, by omega, (hb g rfl).trans e3, e4⟩
theorem OwnV.below {T : TypeId} {W W' : World} {base B : Nat} {v : Value} {l : List Value} (h : OwnV T W base v l) (hb : Below W.heap.size W W') (hB : B ≤ base) : OwnV T W' B v l := h.same (fun g hg => hb.block g (h.lt g hg).2) hB
theorem ownV_empty (T : TypeId) (w : World) (base : Nat) (h : base ≤ w.heap.size) : OwnV T (w.alloc (.cells #[] T)) base (.slice (some ⟨w.heap.size, 0, none⟩) 0 0) [] :=
  w.ownsRow_made #[] 0 h (by unfold maxLen; omega) (by simp)
theorem OwnV.cells {T : TypeId} {W : World} {base : Nat} {v : Value} {cs : List Value} (h : OwnV T W base v cs) : ∃ a cap, v = .slice a cs.length cap ∧ cs.length ≤ cap ∧ ∀ j (_ : j < cs.length), ∃ g, a = some ⟨g, 0, none⟩ ∧ W.cell? ⟨g, j, none⟩ = cs[j]? ∧ W.frozen? ⟨g, j, none⟩ = false := by
  have h0 := h
  rcases h.2 with ⟨rfl, hn⟩ | ⟨g, cap, cur, rfl, _, _, e3, e4, _⟩
  · exact ⟨none, 0, by rw [hn], by omega, fun j hj => by omega⟩
  · refine ⟨_, cap, rfl, by omega, fun j hj => ⟨g, rfl, World.ownsRow.cellAt h0 j (by omega), World.ownsRow.frozenAt h0 _⟩⟩

theorem app_val {P : Program} (t ty T : TypeId) (z : Value) (bytes : Nat) (ht : P.underlying t = some (.slice T)) (hi : (P.info? T).map (fun i => (i.zero, i.size, i.bytes)) = some (some z, 1, bytes)) (hzs : z.cells.size = 1) (hby : bytes ≤ 64) (base b : Nat) (v : Value) (cs : List Value) (u : Value) (W : World) (h : OwnV T W base v cs) (hbase : base ≤ W.heap.size) (h0 : W.cell? ⟨b, 0, none⟩ = some u) (h1 : u.oneCell' = true) (hn : cs.length ≤ 1100000) :
    ∃ g' cap W1, (Builtin.append_ #[t, t] ty #[v, .slice (some ⟨b, 0, none⟩) 1 1]).run P W = .ok (.slice (some ⟨g', 0, none⟩) (cs.length + 1) cap) W1 ∧ OwnV T W1 base (.slice (some ⟨g', 0, none⟩) (cs.length + 1) cap) (cs ++ [u]) ∧ (v.ownBlock = some g' ∨ g' = W.heap.size) ∧ g' < W1.heap.size ∧ W.grownBy W1 v.ownBlock := by
  obtain ⟨i, hi0, hz0, hz1, hz2⟩ := info_parts hi
  obtain ⟨g', cap, W1, hr, hown, hgr, hat, hlt⟩ := run_append_lies (P := P) W t ty base T i z 1 bytes ht hi0 hz0 hz1 hz2 hzs (by omega) v cs.length cs h ⟨b, 0, none⟩ 1 1 [u] rfl (fun j x hx => by
    rw [addr_add0]
    rcases j with _ | j
    · simp at hx; rw [h0, hx]
    · simp at hx) (by simp [h1]) (by omega) (by unfold maxLen; omega) (by
      have : (cs.length + 1) * bytes ≤ 1100001 * 64 := Nat.mul_le_mul (by omega) hby
      omega) hbase W.heap.size rfl
  exact ⟨g', cap, W1, hr, by unfold OwnV; simpa using hown, hat, hlt, hgr⟩
theorem wp_val {P : Program} {w : World} {ops : Array Oper} {rest : List Oper} {o : Oper} {a : Act} {Q : Exit → Act → World → Prop} (hgd : o.guard = none) (s x : Operand) (t T : TypeId) (z : Value) (bytes : Nat)
    (ho : o.op = .call { callee := .builtin .append, args := #[s, x], argTypes := #[t, t] }) (ht : P.underlying t = some (.slice T)) (hi : (P.info? T).map (fun i => (i.zero, i.size, i.bytes)) = some (some z, 1, bytes)) (hzs : z.cells.size = 1) (hby : bytes ≤ 64) (base b : Nat) (v : Value) (cs : List Value) (y : Value) (hs : a.eval s = v) (hx : a.eval x = .slice (some ⟨b, 0, none⟩) 1 1)
    (h : OwnV T w base v cs) (hbase : base ≤ w.heap.size) (h0 : w.cell? ⟨b, 0, none⟩ = some y) (h1 : y.oneCell' = true) (hn : cs.length ≤ 1100000)
    (hK : ∀ g cap w', OwnV T w' base (.slice (some ⟨g, 0, none⟩) (cs.length + 1) cap) (cs ++ [y]) → Below base w w' → w.heap.size ≤ w'.heap.size → wpList P ops Q rest (a.put o.dst (.slice (some ⟨g, 0, none⟩) (cs.length + 1) cap)) w') : wpList P ops Q (o :: rest) a w := by
  obtain ⟨g', cap, w', hr, a1, _, _, a4⟩ := app_val t o.type T z bytes ht hi hzs hby base b v cs y w h hbase h0 h1 hn
  have hb := (Below.refl base w).grown a4 hbase (fun j hj => (World.ownsRow.lt h j hj).1)
  exact wp_app1 hgd s x _ ho _ _ _ w' hs hx hr (hK g' cap w' a1 hb hb.size)

/-- A list of texts that owns its row, or is nil. -/
def OwnS (W : World) (base : Nat) (v : Value) (ls : List ByteArray) : Prop := OwnV 9 W base v (ls.map Value.string)
theorem OwnS.strs {W : World} {base : Nat} {v : Value} {ls : List ByteArray} (h : OwnS W base v ls) : Strs W v ls := by
  obtain ⟨a, cap, rfl, _, hc⟩ := OwnV.cells h
  have hl : (ls.map Value.string).length = ls.length := by simp
  refine ⟨a, cap, by rw [hl], fun j hj => ?_⟩
  obtain ⟨g, rfl, c, _⟩ := hc j (by omega)
  exact ⟨g, 0, rfl, by rw [Nat.zero_add, c]; simp [hj]⟩
theorem wp_str {w : World} {ops : Array Oper} {rest : List Oper} {o : Oper} {a : Act} {Q : Exit → Act → World → Prop} (hgd : o.guard = none) (s x : Operand)
    (ho : o.op = .call { callee := .builtin .append, args := #[s, x], argTypes := #[57, 57] }) (base b : Nat) (v : Value) (ls : List ByteArray) (y : ByteArray) (hs : a.eval s = v) (hx : a.eval x = .slice (some ⟨b, 0, none⟩) 1 1)
    (h : OwnS w base v ls) (hbase : base ≤ w.heap.size) (h0 : w.cell? ⟨b, 0, none⟩ = some (.string y)) (hn : ls.length ≤ 1100000)
    (hK : ∀ g cap w', OwnS w' base (.slice (some ⟨g, 0, none⟩) (ls.length + 1) cap) (ls ++ [y]) → Below base w w' → w.heap.size ≤ w'.heap.size → wpList Tryd.prog ops Q rest (a.put o.dst (.slice (some ⟨g, 0, none⟩) (ls.length + 1) cap)) w') : wpList Tryd.prog ops Q (o :: rest) a w :=
  wp_val hgd s x _ _ _ 16 ho underStrs infoStr rfl (by omega) base b v (ls.map Value.string) (.string y) hs hx h hbase h0 rfl (by simpa using hn) (fun g cap w' h1 h2 h3 => by
    have := hK g cap w' (by unfold OwnS; rw [List.map_append]; simpa using h1) h2 h3
    simpa using this)
theorem OwnS.below {W W' : World} {base B : Nat} {v : Value} {l : List ByteArray} (h : OwnS W base v l) (hb : Below W.heap.size W W') (hB : B ≤ base) : OwnS W' B v l := OwnV.below h hb hB
theorem OwnS.alloc {W : World} {base : Nat} {v : Value} {l : List ByteArray} (h : OwnS W base v l) (o : Obj) : OwnS (W.alloc o) base v l := OwnS.below h ((Below.refl _ _).alloc (Nat.le_refl _) _) (Nat.le_refl _)
theorem OwnV.alloc {T : TypeId} {W : World} {base : Nat} {v : Value} {l : List Value} (h : OwnV T W base v l) (o : Obj) : OwnV T (W.alloc o) base v l := OwnV.below h ((Below.refl _ _).alloc (Nat.le_refl _) _) (Nat.le_refl _)
end Go.Proofs.YtjgkekgieodhnaaDoor.Gf

/- What the laws' own functions on frames answer. -/
namespace Go.Proofs.YtjgkekgieodhnaaDoor.Frm
open Go.RowKit Go.Proofs.YtjgkekgieodhnaaDoor.Mem Go.Proofs.YtjgkekgieodhnaaDoor.Gf Go.Proofs.YtjgkekgieodhnaaDoor.Harn

end Go.Proofs.YtjgkekgieodhnaaDoor.Frm

/- What the program's mix of bytes answers. -/
namespace Go.Proofs.YtjgkekgieodhnaaDoor.Gf
open Go.RowKit Go.Proofs.YtjgkekgieodhnaaDoor.Mem

theorem wrapI {a : Nat} (h : a < 256) : IntKind.i64.wrap (a : Int) = a := by rw [IntKind.wrap_i64]; omega
theorem wrapB {a : Nat} (h : a < 256) : IntKind.u8.wrap (a : Int) = a := by rw [IntKind.wrap_u8']; omega
theorem xorB {a b : Nat} (ha : a < 256) (hb : b < 256) : bits .xor .u8 (a : Int) (b : Int) = ((a ^^^ b : Nat) : Int) := u8_xor_nat a b ha hb

end Go.Proofs.YtjgkekgieodhnaaDoor.Gf

/- What the model's sum of texts answers. -/
namespace Go.Proofs.YtjgkekgieodhnaaDoor.Gf
open Go.RowKit Go.Proofs.YtjgkekgieodhnaaDoor.Mem Go.Proofs.YtjgkekgieodhnaaDoor.Harn

theorem ret_strS {a b : ByteArray} (h : a = b) : Ending.returned (.string a) = .returned (.string b) := by rw [h]
/-- a row of L sums, of which the first k are reckoned -/
def sumRow (c : Nat → Nat) (ps : List (List Nat)) (L k : Nat) : List Nat := (List.range L).map fun j => if j < k then mixAt c ps j ps.length else 0
theorem sumRow_start (c : Nat → Nat) (ps : List (List Nat)) (L : Nat) : ncells .u8 (sumRow c ps L 0) = List.replicate L (.int .u8 0) := by
  apply List.ext_getElem
  · simp [ncells, sumRow]
  · intro j h1 h2; simp [ncells, sumRow]
theorem sumRow_end (c : Nat → Nat) (ps : List (List Nat)) (L : Nat) : sumRow c ps L L = mixed c ps L := by
  unfold sumRow mixed
  apply List.map_congr_left
  intro j hj
  have : j < L := by simpa using hj
  simp [this]
theorem sumRow_at (c : Nat → Nat) (ps : List (List Nat)) (L k : Nat) (h : k < L) : (ncells .u8 (sumRow c ps L k))[k]? = some (.int .u8 0) := by
  simp [ncells, sumRow, h]
theorem sumRow_set (c : Nat → Nat) (ps : List (List Nat)) (L k : Nat) : (ncells .u8 (sumRow c ps L k)).set k (.int .u8 (mixAt c ps k ps.length : Nat)) = ncells .u8 (sumRow c ps L (k + 1)) := by
  apply List.ext_getElem
  · simp [ncells, sumRow]
  · intro j h1 h2
    by_cases e : k = j
    · subst e; simp [ncells, sumRow]
    · rw [List.getElem_set_ne e]
      by_cases e2 : j < k
      · have : j < k + 1 := by omega
        simp [ncells, sumRow, e2, this]
      · have : ¬ j < k + 1 := by omega
        simp [ncells, sumRow, e2, this]
theorem ncells_u8 (l : List Nat) (h : Els l) : ncells .u8 l = Lib.byteCells (l.map UInt8.ofNat) := by
  unfold ncells Lib.byteCells
  rw [List.map_map]
  apply List.map_congr_left
  intro x hx
  have := h x hx
  simp; omega
theorem mixAt_str (c : Nat → Nat) (ls : List ByteArray) (k i : Nat) (hi : i < ls.length) (hk : k < ls[i].size) : mixAt c (ls.map nb) k (i + 1) = mixAt c (ls.map nb) k i ^^^ mul (c i) (ls[i][k]).toNat := by
  rw [mixAt_succ _ _ _ _ (by simpa using hi) (by simpa [nb_len] using hk)]
  simp only [List.getElem_map, nb_at _ _ hk]

end Go.Proofs.YtjgkekgieodhnaaDoor.Gf

/- What the model's Spread answers. -/
namespace Go.Proofs.YtjgkekgieodhnaaDoor.Gf
open Go.RowKit Go.Proofs.YtjgkekgieodhnaaDoor.Mem Go.Proofs.YtjgkekgieodhnaaDoor.Harn

theorem ownS_of_app {W : World} {base g cap n : Nat} {ls : List ByteArray} (h : W.ownsRow base 9 1 (.slice (some ⟨g, 0, none⟩) n cap) n (ls.map Value.string)) (hn : n = ls.length) : OwnS W base (.slice (some ⟨g, 0, none⟩) n cap) ls := by
  subst hn
  unfold OwnS OwnV
  simpa using h
/-- 'append([]string{}, l...)' of at least one text -/
theorem copy_strs (ty : TypeId) (g0 : Nat) (v : Value) (ls : List ByteArray) (W : World) (h : Strs W v ls) (h0 : 0 < ls.length) (hn : ls.length ≤ 1100000) :
    ∃ g cap W1, (Builtin.append_ #[57, 57] ty #[.slice (some ⟨g0, 0, none⟩) 0 0, v]).run Tryd.prog W = .ok (.slice (some ⟨g, 0, none⟩) ls.length cap) W1 ∧ OwnS W1 W.heap.size (.slice (some ⟨g, 0, none⟩) ls.length cap) ls ∧ Below W.heap.size W W1 := by
  obtain ⟨a, c, rfl, hc⟩ := h
  obtain ⟨b, o, rfl, _⟩ := hc 0 (by omega)
  obtain ⟨g, cap, W1, hr, h1, h2, h3, h4, h5, h6⟩ := app_new (P := Tryd.prog) 57 ty 9 (.string ByteArray.empty) 1 16 underStrs infoStr rfl (by omega) ⟨g0, 0, none⟩ ⟨b, o, none⟩ ls.length c (ls.map Value.string) W (by simp) (fun j u hu => by
    rw [List.getElem?_map] at hu
    cases e : ls[j]? with
    | none => rw [e] at hu; cases hu
    | some t =>
      rw [e] at hu
      obtain ⟨hj, ht⟩ := List.getElem?_eq_some_iff.1 e
      obtain ⟨b', o', hbo, hcell⟩ := hc j hj
      injection hbo with hbo
      injection hbo with e1 e2 _
      subst e1 e2
      have hadd : (⟨b, o, none⟩ : Addr).add j = ⟨b, o + j, none⟩ := by unfold Addr.add; split <;> simp_all
      rw [hadd, hcell, ht]
      simpa using hu) (by omega) (by unfold maxLen; omega) (by omega)
  exact ⟨g, cap, W1, hr, ownS_of_app h6 rfl, h3⟩

/-- the further pieces of texts, as texts -/
def restS (ls : List ByteArray) (need L k : Nat) : List ByteArray := ls ++ (rests (ls.map nb) need L k).map toB
theorem restS_zero (ls : List ByteArray) (need L : Nat) : restS ls need L 0 = ls := by simp [restS, rests]
theorem restS_succ (ls : List ByteArray) (need L k : Nat) : restS ls need L (k + 1) = restS ls need L k ++ [toB (rest1 (ls.map nb) need L k)] := by simp [restS, rests_succ]
theorem restS_len (ls : List ByteArray) (need L k : Nat) : (restS ls need L k).length = ls.length + k := by simp [restS, rests]

end Go.Proofs.YtjgkekgieodhnaaDoor.Gf

/- What the model's Spread answers, whole. -/
namespace Go.Proofs.YtjgkekgieodhnaaDoor.Gf
open Go.RowKit Go.Proofs.YtjgkekgieodhnaaDoor.Mem Go.Proofs.YtjgkekgieodhnaaDoor.Harn

theorem mulW {a b : Nat} (h : a * b ≤ 1000000) : IntKind.i64.wrap ((a : Int) * (b : Int)) = ((a * b : Nat) : Int) := by
  rw [← Int.natCast_mul]; exact IntWalk.i64_in _ ⟨by omega, by omega⟩
theorem plen_int {need size : Nat} (h : 0 < need) : ((size : Int) + need - 1) / need = ((plen need size : Nat) : Int) := by
  unfold plen
  have e : ((size : Int) + need - 1) = ((size + need - 1 : Nat) : Int) := by omega
  rw [e]; rfl

theorem slice_text (tx : ByteArray) (a b : Nat) (ha : a ≤ b) (hb : b ≤ tx.size) (i j : Int) (hi : i = a) (hj : j = b) (W : World) : (Instr.slice 9 (.string tx) (some (.int .i64 i)) (some (.int .i64 j)) none).run Tryd.prog W = .ok (.string (tx.extract a b)) W := by
  subst hi hj
  simp [Instr.slice, Instr.sliceBounds, run_underlying Join.underS, go_sem, ha, hb]

theorem toB_app (a b : List Nat) : toB a ++ toB b = toB (a ++ b) := by
  apply ByteArray.ext
  simp [toB]
theorem toB_extract (l : List Nat) (a b : Nat) : (toB l).extract a b = toB ((l.drop a).take (b - a)) := by
  apply ByteArray.ext
  apply Array.ext'
  simp [toB, List.extract_eq_take_drop]
theorem pad_text (t : ByteArray) (need : Nat) : t ++ toB (List.replicate (need * plen need t.size - t.size) 0) = toB (pad (nb t) need) := by
  conv => lhs; lhs; rw [← toB_nb t]
  rw [toB_app]
  unfold pad
  rw [nb_len]
theorem zeros_cells (n : Nat) : List.replicate n (Value.int .u8 0) = Lib.byteCells ((List.replicate n 0).map UInt8.ofNat) := by
  apply List.ext_getElem
  · simp [Lib.byteCells]
  · intro j h1 h2; simp [Lib.byteCells]

end Go.Proofs.YtjgkekgieodhnaaDoor.Gf

/- What the model's look at a frame answers. -/
namespace Go.Proofs.YtjgkekgieodhnaaDoor.Frm
open Go.RowKit Go.Proofs.YtjgkekgieodhnaaDoor.Mem Go.Proofs.YtjgkekgieodhnaaDoor.Gf Go.Proofs.YtjgkekgieodhnaaDoor.Harn

theorem isB_call {n l h : Int} {b : Bool} (e : isB n l h = b) (W : World) : Calls Tryd.prog 20 #[.int .i64 n, .int .i64 l, .int .i64 h] W fun e w' => e = .returned (.bool b) ∧ w' = W := by
  subst e; exact (l05Is_any n l h W).mono fun _ _ h => ⟨h.1, h.2.symm⟩
theorem ret_bool {a b : Bool} (h : a = b) : Ending.returned (.bool a) = .returned (.bool b) := by rw [h]

end Go.Proofs.YtjgkekgieodhnaaDoor.Frm

/- What the model's bytes of a frame are. -/
namespace Go.Proofs.YtjgkekgieodhnaaDoor.Frm
open Go.RowKit Go.Proofs.YtjgkekgieodhnaaDoor.Mem Go.Proofs.YtjgkekgieodhnaaDoor.Gf Go.Proofs.YtjgkekgieodhnaaDoor.Harn

theorem cat_eight (a b c d e f g h : ByteArray) : catB [a, b, c, d, e, f, g, h] = a ++ b ++ c ++ d ++ e ++ f ++ g ++ h := by
  apply ByteArray.ext; simp [catB]
theorem bself' {w : World} (o : Obj) : Below w.heap.size w (w.alloc o) := (Below.refl _ _).alloc (Nat.le_refl _) _
theorem bD' {w W : World} (h : Below w.heap.size w W) : Below w.heap.size w W.drew := Sha.bel_drewN h 1

end Go.Proofs.YtjgkekgieodhnaaDoor.Frm

/- What the program's cutting of a text answers, and its small helpers. -/
namespace Go.Proofs.YtjgkekgieodhnaaDoor.Gf
open Go.RowKit Go.Proofs.YtjgkekgieodhnaaDoor.Mem Go.Proofs.YtjgkekgieodhnaaDoor.Harn

theorem fine_cases (need more size : Int) : (need < 1 ∧ fineB need more size = false) ∨ (¬ need < 1 ∧ 6 < need ∧ fineB need more size = false) ∨ (¬ need < 1 ∧ ¬ 6 < need ∧ more < 0 ∧ fineB need more size = false) ∨ (¬ need < 1 ∧ ¬ 6 < need ∧ ¬ more < 0 ∧ 4 < more ∧ fineB need more size = false) ∨ (¬ need < 1 ∧ ¬ 6 < need ∧ ¬ more < 0 ∧ ¬ 4 < more ∧ size < 1 ∧ fineB need more size = false) ∨ (¬ need < 1 ∧ ¬ 6 < need ∧ ¬ more < 0 ∧ ¬ 4 < more ∧ ¬ size < 1 ∧ 100 < size ∧ fineB need more size = false) ∨ (¬ need < 1 ∧ ¬ 6 < need ∧ ¬ more < 0 ∧ ¬ 4 < more ∧ ¬ size < 1 ∧ ¬ 100 < size ∧ fineB need more size = true) := by
  have h : (fineB need more size = true) ↔ (1 ≤ need ∧ need ≤ 6) ∧ (0 ≤ more ∧ more ≤ 4) ∧ (1 ≤ size ∧ size ≤ 100) := by
    simp only [fineB, isB, Bool.and_eq_true, decide_eq_true_eq, and_assoc]
  by_cases hf : fineB need more size = true
  · have h3 := h.1 hf
    rw [hf]
    clear hf h
    simp only [Bool.true_eq_false, and_true, and_false, false_or]
    omega
  · have hf' : fineB need more size = false := by simpa using hf
    have h2 : ¬ ((1 ≤ need ∧ need ≤ 6) ∧ (0 ≤ more ∧ more ≤ 4) ∧ (1 ≤ size ∧ size ≤ 100)) := fun x => hf (h.2 x)
    rw [hf']
    clear hf h hf'
    simp only [and_true, Bool.false_eq_true, and_false, or_false]
    omega

/-- Of n values the first k laid. -/
def slots (f : Nat → Value) (z : Value) (n k : Nat) : List Value := (List.range n).map fun j => if j < k then f j else z
theorem slots_start (f : Nat → Value) (z : Value) (n : Nat) : slots f z n 0 = List.replicate n z := by
  apply List.ext_getElem
  · simp [slots]
  · intro j h1 h2; simp [slots]
theorem slots_at (f : Nat → Value) (z : Value) (n k : Nat) (h : k < n) : (slots f z n k)[k]? = some z := by simp [slots, h]
theorem slots_in (f : Nat → Value) (z : Value) (n k j : Nat) (hj : j < k) (hk : k ≤ n) : (slots f z n k)[j]? = some (f j) := by
  have : j < n := by omega
  simp [slots, this, hj]
theorem slots_set (f : Nat → Value) (z : Value) (n k : Nat) : (slots f z n k).set k (f k) = slots f z n (k + 1) := by
  apply List.ext_getElem
  · simp [slots]
  · intro j h1 h2
    by_cases e : k = j
    · subst e; simp [slots]
    · rw [List.getElem_set_ne e]
      by_cases e2 : j < k
      · have : j < k + 1 := by omega
        simp [slots, e2, this]
      · have : ¬ j < k + 1 := by omega
        simp [slots, e2, this]

theorem infoU8s : (Tryd.prog.info? 74).map (fun i => (i.zero, i.size, i.bytes)) = some (some (.slice none 0 0), 1, 24) := by kernel_rfl
/-- a piece of a row of bytes -/
theorem slice_row (ty : TypeId) (hty : Tryd.prog.underlying ty = some (.slice 5)) (hsz : (Tryd.prog.info? 5).map (·.size) = some 1) (g a b n : Nat) (ha : a ≤ b) (hb : b ≤ n) (han : a < n) (i j : Int) (hi : i = a) (hj : j = b) (W : World) :
    (Instr.slice ty (.slice (some ⟨g, 0, none⟩) n n) (some (.int .i64 i)) (some (.int .i64 j)) none).run Tryd.prog W = .ok (.slice (some ⟨g, a, none⟩) (b - a) (n - a)) W := by
  subst hi hj
  obtain ⟨info, hi, hs⟩ := Option.map_eq_some_iff.1 hsz
  have hna : ¬ n = a := by omega
  simp [Instr.slice, Instr.sliceBounds, run_underlying hty, go_sem, ha, hb, hna, sizeOf, typeInfo, hi, hs]

/-- 'string(b)' of a piece that is not empty -/
theorem conv_nums {W : World} {v : Value} {l : List Nat} (h : NumsK .u8 W v l) (hel : Els l) (h0 : 0 < l.length) : (convert 74 9 v).run Tryd.prog W = .ok (.string (toB l)) W := by
  obtain ⟨a, cap, rfl, hc⟩ := h
  obtain ⟨b, o, rfl, _⟩ := hc 0 h0
  have hl : (l.map UInt8.ofNat).length = l.length := by simp
  have := run_convert_bytes_back W 74 9 5 ⟨b, o, none⟩ cap (l.map UInt8.ofNat) Join.under Join.under8 Join.underS (fun j hj => by
    have hj2 : j < l.length := by omega
    obtain ⟨b', o', hbo, c⟩ := hc j hj2
    injection hbo with hbo
    injection hbo with e1 e2 _
    subst e1 e2
    have e : (⟨b, o, none⟩ : Addr).add j = ⟨b, o + j, none⟩ := by unfold Addr.add; split <;> simp_all
    rw [e, c]
    have := hel.at hj2
    simp; omega)
  rw [hl] at this
  exact this

end Go.Proofs.YtjgkekgieodhnaaDoor.Gf

/- What the program's look at rising shards answers. -/
namespace Go.Proofs.YtjgkekgieodhnaaDoor.Srt
open Go.RowKit Go.Proofs.YtjgkekgieodhnaaDoor.Mem Go.Proofs.YtjgkekgieodhnaaDoor.Harn Go.Proofs.YtjgkekgieodhnaaDoor.Gf

theorem ret_bool {a b : Bool} (h : a = b) : Ending.returned (.bool a) = .returned (.bool b) := by rw [h]
/-- may this be a shard of a text of s bytes, of n and m pieces? -/
def okS (n m s : Nat) (x : E) : Bool := decide (0 ≤ x.1) && decide (x.1 < (n : Int) + m) && decide (x.2.size = plen n s)

/-- are these rising shards those of a text? -/
def rightAt (n m s : Nat) (l : List E) (i : Nat) : Bool := okS n m s (l[i]?.getD dE) && (decide (i = 0) || decide (kat l i ≠ kat l (i - 1)))
def rightB (n m s : Nat) (l : List E) : Bool := (List.range l.length).all (rightAt n m s l)
theorem rightB_no {n m s : Nat} {l : List E} {i : Nat} (hi : i < l.length) (h : rightAt n m s l i = false) : rightB n m s l = false := by
  unfold rightB; rw [List.all_eq_false]; exact ⟨i, by simpa using hi, by simp [h]⟩
theorem rightB_yes {n m s : Nat} {l : List E} (h : ∀ i, i < l.length → rightAt n m s l i = true) : rightB n m s l = true := by
  unfold rightB; rw [List.all_eq_true]; intro i hi; exact h i (by simpa using hi)
end Go.Proofs.YtjgkekgieodhnaaDoor.Srt

/- What the program's look at a frame answers. -/
namespace Go.Proofs.YtjgkekgieodhnaaDoor.Frm
open Go.RowKit Go.Proofs.YtjgkekgieodhnaaDoor.Mem Go.Proofs.YtjgkekgieodhnaaDoor.Gf Go.Proofs.YtjgkekgieodhnaaDoor.Harn

end Go.Proofs.YtjgkekgieodhnaaDoor.Frm

/- What the program's bytes of a frame are. -/
namespace Go.Proofs.YtjgkekgieodhnaaDoor.Frm
open Go.RowKit Go.Proofs.YtjgkekgieodhnaaDoor.Mem Go.Proofs.YtjgkekgieodhnaaDoor.Gf Go.Proofs.YtjgkekgieodhnaaDoor.Harn

def ptrs (b : Nat) : List Value := (List.range 7).map fun k => .pointer (some ⟨b, k, none⟩)
theorem ptrs_at (b k : Nat) (h : k < 7) : (ptrs b)[k]? = some (.pointer (some ⟨b, k, none⟩)) := by simp [ptrs, h]

theorem wp_app_textN {w : World} {ops : Array Oper} {rest : List Oper} {o : Oper} {a : Act} {Q : Exit → Act → World → Prop} (hgd : o.guard = none) (sl x : Operand)
    (ho : o.op = .call { callee := .builtin .append, args := #[sl, x], argTypes := #[74, 9] }) (base : Nat) (v : Value) (l : List UInt8) (s : ByteArray) (hs : a.eval sl = v) (hx : a.eval x = .string s)
    (hown : OwnsB w base 5 v l) (hn : l.length + s.size ≤ 1000000) (h0 : 0 < s.size) (hbase : base ≤ w.heap.size)
    (h : ∀ v' w', OwnsB w' base 5 v' (l ++ s.data.toList) → v' ≠ .slice none 0 0 → Below base w w' → w.heap.size ≤ w'.heap.size → wpList Tryd.prog ops Q rest (a.put o.dst v') w') : wpList Tryd.prog ops Q (o :: rest) a w := by
  obtain ⟨i, hi, hz0, hz1, hz2⟩ := info_parts Disk.infoB
  refine Lib.wpList_append_own_string w hgd sl x _ _ ho base 5 i Disk.underB Disk.underTx hi hz0 hz1 hz2 v l.length (Lib.byteCells l) hs hown s hx (by unfold maxLen; omega) (by omega) hbase ?_
  intro v' w' h1 h2 h3
  refine h v' w' ?_ (fun e => by have := (h3.1 e).2; omega) ?_ h2.size
  · unfold OwnsB
    have e1 : (l ++ s.data.toList).length = l.length + s.size := by rw [List.length_append]; rfl
    have e2 : Lib.byteCells (l ++ s.data.toList) = Lib.byteCells l ++ Lib.strCells s := by simp [Lib.byteCells, Lib.strCells]
    rw [e1, e2]
    exact h1
  · exact (Below.refl base w).grown h2 hbase (fun k hk => (World.ownsRow.lt hown k hk).1)

theorem catS_one (l : List ByteArray) (k : Nat) (h : k < l.length) : catS (l.take (k + 1)) = catS (l.take k) + l[k].size := by
  rw [List.take_succ_eq_append_getElem h, catS_app]; rfl
theorem catB_one (l : List ByteArray) (k : Nat) (h : k < l.length) : (catB (l.take (k + 1))).data.toList = (catB (l.take k)).data.toList ++ l[k].data.toList := by
  rw [List.take_succ_eq_append_getElem h, catB_snoc]; simp
theorem catB_len (l : List ByteArray) : (catB l).data.toList.length = catS l := (catB_size l ▸ rfl)
theorem str_eq {a b : ByteArray} (h : a.data.toList = b.data.toList) : a = b := by
  apply ByteArray.ext; apply Array.ext'; exact h

set_option maxRecDepth 100000 in
set_option maxHeartbeats 1000000 in
theorem together_any (v : Value) (ls : List ByteArray) (w : World) (h : Strs w v ls) (hs : catS ls ≤ 100000) (hl : ls.length ≤ 1000) (h1 : 0 < ls.length) (h0 : ∀ t ∈ ls, 0 < t.size) :
    Calls Tryd.prog 31 #[v] w fun e w' => e = .returned (.string (catB ls)) ∧ Below w.heap.size w w' := by
  obtain ⟨a, cap, rfl, hc⟩ := h
  have HC : Hid (∀ j (h : j < ls.length), ∃ b o, a = some ⟨b, o, none⟩ ∧ w.cell? ⟨b, o + j, none⟩ = some (.string ls[j])) := hc
  have H0 : Hid (∀ t ∈ ls, 0 < t.size) := h0
  clear hc h0
  go_enter Tryd.func31, Tryd.ntmps31
  go_wp2
  go_loopw [3, 8] (fun v i wr => ∃ k : Nat, k ≤ ls.length ∧ i = .int .i64 k ∧ OwnsB wr w.heap.size 5 v (catB (ls.take k)).data.toList ∧ (0 < k → v ≠ .slice none 0 0) ∧ Below w.heap.size w wr) (fun _ i _ => ls.length - (intOf i).toNat)
  case atStart => exact ⟨0, by omega, rfl, World.ownsRow_nil _ _ _ _, fun h => by omega, Below.refl _ _⟩
  case round =>
    obtain ⟨k, hk, rfl, hown, hnil, hbel⟩ := hrel
    have HOWN : Hid (OwnsB wr w.heap.size 5 u3 (catB (ls.take k)).data.toList) := hown
    have HBEL : Hid (Below w.heap.size w wr) := hbel
    have HNIL : Hid (0 < k → u3 ≠ .slice none 0 0) := hnil
    have hz := hbel.size
    clear hown hnil
    by_cases hlt : k < ls.length
    · obtain ⟨b, o, rfl, d1⟩ := HC.out k hlt
      have c1 : wr.cell? ⟨b, o + k, none⟩ = _ := (hbel.cell (World.block_lt_of_cell? w _ d1)).trans d1
      have HE : Hid _ := catB_one ls k hlt
      have HL : Hid ((catB (ls.take k)).data.toList.length + ls[k].size ≤ 1000000) := by
        have e1 := catB_len (ls.take k)
        have e2 := catS_one ls k hlt
        have e3 := catS_take ls (k + 1)
        show _ ≤ _
        omega
      have HP : Hid (0 < ls[k].size) := H0.out _ (List.getElem_mem hlt)
      have p1 : (k : Int) < (ls.length : Int) := by omega
      generalize ls[k] = t at *
      generalize (catB (ls.take k)).data.toList = l at *
      clear d1 hbel
      go_wp2_with (at_builtin; refine wp_app_textN (by rfl) _ _ (by rfl) w.heap.size u3 l t (by rfl) (by rfl) HOWN.out HL.out HP.out hz ?_; intro v' w' ho1 hn1 hb1 hz1; have HO1 : Hid _ := ho1; have HB1 : Hid _ := hb1; have HN1 : Hid _ := hn1; clear ho1 hb1 hn1)
      go_roundw
      case rel => exact ⟨k + 1, by omega, by go_num, by rw [HE.out]; exact HO1.out, fun _ => HN1.out, HBEL.out.trans HB1.out⟩
      case measure => simp [intOf]; omega
    · obtain rfl : k = ls.length := by omega
      have hcv := Disk.ownB_text HOWN.out (HNIL.out h1)
      rw [List.take_length] at hcv
      have e : (⟨(catB ls).data.toList.toArray⟩ : ByteArray) = catB ls := str_eq (by simp)
      rw [e] at hcv
      have HZ : Hid (∃ z, z = catB ls) := ⟨_, rfl⟩
      obtain ⟨z, hz'⟩ := HZ.out
      rw [← hz'] at hcv
      have HZ' : Hid (z = catB ls) := hz'
      clear e hbel hz' HZ
      go_wp2
      go_ret
      exact ⟨PutNum.ret_str HZ'.out, HBEL.out⟩

theorem nums_len (f : Fr) : f.nums.length = 7 := rfl
theorem texts_len (f : Fr) : f.texts.length = 8 := rfl
theorem nums_bd {f : Fr} (h : f.right = true) : ∀ k (hk : k < f.nums.length), -9223372036854775808 ≤ f.nums[k] ∧ f.nums[k] ≤ 9223372036854775807 := by
  obtain ⟨⟨o1, o2⟩, ⟨g1, g2⟩, ⟨gs1, gs2⟩, ⟨n1, n2⟩, ⟨m1, m2⟩, ⟨s1, s2⟩, ⟨x1, x2⟩, t1⟩ := Fr.bounds h
  have hall : ∀ y ∈ f.nums, -9223372036854775808 ≤ y ∧ y ≤ 9223372036854775807 := by
    intro y hy
    simp only [Fr.nums, List.mem_cons, List.not_mem_nil, or_false] at hy
    rcases hy with rfl | rfl | rfl | rfl | rfl | rfl | rfl <;> constructor <;> omega
  exact fun k hk => hall _ (List.getElem_mem hk)
/-- a frame's eight cells -/
def Fr.cells (f : Fr) : List Value := [.int .i64 f.o, .int .i64 f.g, .int .i64 f.gs, .int .i64 f.n, .int .i64 f.m, .int .i64 f.s, .int .i64 f.x, .string f.t]
theorem cells_num (f : Fr) (k : Nat) (hk : k < f.nums.length) : f.cells[k]? = some (.int .i64 f.nums[k]) := by
  have h : k < 7 := hk
  rcases k with _ | _ | _ | _ | _ | _ | _ | k
  · rfl
  · rfl
  · rfl
  · rfl
  · rfl
  · rfl
  · rfl
  · omega
theorem cells_text (f : Fr) : f.cells[7]? = some (.string f.t) := rfl
theorem take_numB (f : Fr) (k : Nat) (hk : k < f.nums.length) : (f.nums.take (k + 1)).map PutNum.numB = (f.nums.take k).map PutNum.numB ++ [PutNum.numB f.nums[k]] := by
  rw [List.take_succ_eq_append_getElem hk, List.map_append]; rfl
theorem texts_pos (f : Fr) : ∀ t ∈ f.texts, 0 < t.size := by
  intro t ht
  rcases List.mem_append.1 ht with h | h
  · obtain ⟨n, _, rfl⟩ := List.mem_map.1 h
    have := (numB_size n).1; omega
  · simp only [List.mem_singleton] at h
    subst h
    have := (numB_size (f.t.size : Nat)).1
    simp only [PutText.textB, ByteArray.size_append]; omega

end Go.Proofs.YtjgkekgieodhnaaDoor.Frm

/- 'append(xs, ys...)' of lists of values of one cell each. -/
namespace Go.Proofs.YtjgkekgieodhnaaDoor.Gf
open Go.RowKit Go.Proofs.YtjgkekgieodhnaaDoor.Mem Go.Proofs.YtjgkekgieodhnaaDoor.Harn

theorem app_to_some {P : Program} (t ty e : TypeId) (z : Value) (size bytes : Nat) (ht : P.underlying t = some (.slice e)) (hi : (P.info? e).map (fun i => (i.zero, i.size, i.bytes)) = some (some z, size, bytes)) (b0 : Addr) (n cap : Nat) (hn : n ≤ cap) (a : Option Addr) (c : Nat) (w : World) :
    (Builtin.append_ #[t, t] ty #[.slice (some b0) n cap, .slice a 0 c]).run P w = .ok (.slice (some b0) n cap) w := by
  obtain ⟨i, hi0, hz0, hz1, hz2⟩ := info_parts hi
  cases a <;> simp [Builtin.append_, run_underlying ht, sizeOf, typeInfo, hi0, Builtin.lenOf, Builtin.firstCells, storeCells, loadCells, loadCellsFrom, hn]
theorem app_to_nil {P : Program} (t ty e : TypeId) (z : Value) (size bytes : Nat) (ht : P.underlying t = some (.slice e)) (hi : (P.info? e).map (fun i => (i.zero, i.size, i.bytes)) = some (some z, size, bytes)) (a : Option Addr) (c : Nat) (w : World) :
    (Builtin.append_ #[t, t] ty #[.slice none 0 0, .slice a 0 c]).run P w = .ok (.slice none 0 0) w := by
  obtain ⟨i, hi0, hz0, hz1, hz2⟩ := info_parts hi
  cases a <;> simp [Builtin.append_, run_underlying ht, sizeOf, typeInfo, hi0, Builtin.lenOf, Builtin.firstCells, loadCells, loadCellsFrom]
theorem app_many {P : Program} (t ty T : TypeId) (z : Value) (bytes : Nat) (ht : P.underlying t = some (.slice T)) (hi : (P.info? T).map (fun i => (i.zero, i.size, i.bytes)) = some (some z, 1, bytes)) (hzs : z.cells.size = 1) (hby : bytes ≤ 64) (base : Nat) (v u : Value) (cs us : List Value) (W : World) (h : OwnV T W base v cs) (hu : ∃ a c, u = .slice a us.length c ∧ ∀ j (_ : j < us.length), ∃ g o, a = some ⟨g, o, none⟩ ∧ W.cell? ⟨g, o + j, none⟩ = us[j]?) (hbase : base ≤ W.heap.size) (h1 : ∀ u ∈ us, u.oneCell' = true) (hn : cs.length + us.length ≤ 1100000) :
    ∃ v' W1, (Builtin.append_ #[t, t] ty #[v, u]).run P W = .ok v' W1 ∧ OwnV T W1 base v' (cs ++ us) ∧ Below base W W1 ∧ W.heap.size ≤ W1.heap.size := by
  obtain ⟨a, c, rfl, hc⟩ := hu
  by_cases h0 : us.length = 0
  · have e : us = [] := List.length_eq_zero_iff.1 h0
    subst e
    have h2 := h
    rcases h.2 with ⟨rfl, hn0⟩ | ⟨g, cap, cur, rfl, _, _, hle, _⟩
    · exact ⟨_, W, app_to_nil t ty T z 1 bytes ht hi a c W, by rw [List.append_nil]; exact h2, Below.refl _ _, Nat.le_refl _⟩
    · exact ⟨_, W, app_to_some t ty T z 1 bytes ht hi _ _ _ hle a c W, by rw [List.append_nil]; exact h2, Below.refl _ _, Nat.le_refl _⟩
  · obtain ⟨i, hi0, hz0, hz1, hz2⟩ := info_parts hi
    obtain ⟨gb, ob, rfl, _⟩ := hc 0 (by omega)
    obtain ⟨g', cap, W1, hr, hown, hgr, hat, hlt⟩ := run_append_lies (P := P) W t ty base T i z 1 bytes ht hi0 hz0 hz1 hz2 hzs (by omega) v cs.length cs h ⟨gb, ob, none⟩ us.length c us (by omega) (fun j u hu => by
      have hj : j < us.length := by
        rcases Nat.lt_or_ge j us.length with h | h
        · exact h
        · rw [List.getElem?_eq_none h] at hu; cases hu
      obtain ⟨g2, o2, hg2, c2⟩ := hc j hj
      injection hg2 with hg2
      injection hg2 with e1 e2 _
      subst e1 e2
      have hadd : (⟨gb, ob, none⟩ : Addr).add j = ⟨gb, ob + j, none⟩ := by unfold Addr.add; split <;> simp_all
      rw [hadd, c2, hu]) h1 (by omega) (by unfold maxLen; omega) (by
      have : (cs.length + us.length) * bytes ≤ 1100001 * 64 := Nat.mul_le_mul (by omega) hby
      omega) hbase W.heap.size rfl
    have hb := (Below.refl base W).grown hgr hbase (fun j hj => (World.ownsRow.lt h j hj).1)
    exact ⟨_, W1, hr, by unfold OwnV; simpa using hown, hb, hb.size⟩
/-- texts behind texts -/
theorem wp_strs {w : World} {ops : Array Oper} {rest : List Oper} {o : Oper} {a : Act} {Q : Exit → Act → World → Prop} (hgd : o.guard = none) (s x : Operand)
    (ho : o.op = .call { callee := .builtin .append, args := #[s, x], argTypes := #[57, 57] }) (base : Nat) (v u : Value) (ls l2 : List ByteArray) (hs : a.eval s = v) (hx : a.eval x = u)
    (h : OwnS w base v ls) (hu : Strs w u l2) (hbase : base ≤ w.heap.size) (hn : ls.length + l2.length ≤ 1100000)
    (hK : ∀ v' w', OwnS w' base v' (ls ++ l2) → Below base w w' → w.heap.size ≤ w'.heap.size → wpList Tryd.prog ops Q rest (a.put o.dst v') w') : wpList Tryd.prog ops Q (o :: rest) a w := by
  obtain ⟨v', w', hr, h1, h2, h3⟩ := app_many (P := Tryd.prog) 57 o.type 9 (.string ByteArray.empty) 16 underStrs infoStr rfl (by omega) base v u (ls.map Value.string) (l2.map Value.string) w h (by
    obtain ⟨a, c, rfl, hc⟩ := hu
    refine ⟨a, c, by simp, fun j hj => ?_⟩
    have hj2 : j < l2.length := by simpa using hj
    obtain ⟨g, ob, e, hcell⟩ := hc j hj2
    exact ⟨g, ob, e, by rw [hcell]; simp [hj2]⟩) hbase (fun u hu => by obtain ⟨t, _, rfl⟩ := List.mem_map.1 hu; rfl) (by simpa using hn)
  exact wp_app1 hgd s x _ ho _ _ _ w' hs hx hr (hK v' w' (by unfold OwnS; rw [List.map_append]; exact h1) h2 h3)
end Go.Proofs.YtjgkekgieodhnaaDoor.Gf
