/- Laws that the proof rests on, put together: What GfMul, GfInv and GfDiv of the program and of the model answer, whatever they are given. The line through places of chapter 6 as a function of numbers, and lists of numbers in memory. A list of values of one cell each that the call itself appends to; texts. Two lists of the call's own that share no block, and appends to one of them. -/
import Derived.Test.YtkanhjafchiikaaGfMul
import Derived.Test.YtkanhjafchiikaaTextsB
import Derived.Deep.AppendLies
import Derived.ArgAppend
/- What GfMul, GfInv and GfDiv of the program and of the model answer, whatever they are given. -/
namespace Go.Proofs.Ytkanhjafchiikaa.Gf
open Go.RowKit

theorem el_nat {a : Int} (h : el a = true) : ∃ n : Nat, a = n ∧ n < 256 := by
  simp [el] at h; exact ⟨a.toNat, by omega, by omega⟩
theorem el_of {n : Nat} (h : n < 256) : el (n : Int) = true := by simp [el]; omega
theorem mulZ_nat {a b : Nat} (ha : a < 256) (hb : b < 256) : mulZ a b = (mul a b : Nat) := by
  simp [mulZ, el_of ha, el_of hb]
theorem mulZ_no {a b : Int} (h : ¬ (el a = true ∧ el b = true)) : mulZ a b = 0 := by
  unfold mulZ; rw [if_neg]; simpa using h

def invZ (a : Int) : Int := if el a && decide (a ≠ 0) then (inv a.toNat : Nat) else 0
theorem invZ_nat {a : Nat} (ha : a < 256) : invZ a = (inv a : Nat) := by
  by_cases h : a = 0
  · subst h; rw [inv_zero]; rfl
  · simp only [invZ, el_of ha]; rw [if_pos (by simp; omega)]; rfl
theorem invZ_no {a : Int} (h : el a = false) : invZ a = 0 := by simp [invZ, h]
theorem invZ_zero : invZ 0 = 0 := rfl
def divZ (a b : Int) : Int := mulZ a (invZ b)
theorem divZ_nat {a b : Nat} (ha : a < 256) (hb : b < 256) : divZ a b = (mul a (inv b) : Nat) := by
  unfold divZ; rw [invZ_nat hb, mulZ_nat ha (inv_lt hb)]
theorem mulZ_zero (a : Int) : mulZ a 0 = 0 := by
  unfold mulZ; split
  · simp [mul_zero]
  · rfl

set_option maxRecDepth 100000 in
theorem implMul_any (a b : Int) (w : World) :
    Calls Try.prog 57 #[.int .i64 a, .int .i64 b] w fun e w' => e = .returned (.int .i64 (mulZ a b)) ∧ w = w' := by
  by_cases ha : el a = true
  · by_cases hb : el b = true
    · obtain ⟨m, rfl, hm⟩ := el_nat ha
      obtain ⟨n, rfl, hn⟩ := el_nat hb
      rw [mulZ_nat hm hn]
      exact mulP_any m n w hm hn
    · have HZ : Hid (mulZ a b = 0) := mulZ_no (by simp [hb])
      have hb' : el b = false := by simpa using hb
      clear hb
      go_enter Try.func57, Try.ntmps57
      go_wp2_with (go_at_call 73; refine (isEl_any _ _).mono ?_; rintro e w' ⟨rfl, rfl⟩)
      go_ret
      exact ⟨ret_int HZ.out.symm, rfl⟩
  · have HZ : Hid (mulZ a b = 0) := mulZ_no (by simp [ha])
    have ha' : el a = false := by simpa using ha
    clear ha
    go_enter Try.func57, Try.ntmps57
    go_wp2_with (go_at_call 73; refine (isEl_any _ _).mono ?_; rintro e w' ⟨rfl, rfl⟩)
    go_ret
    exact ⟨ret_int HZ.out.symm, rfl⟩

/-- is it from low to high? -/
def isB (n l h : Int) : Bool := decide (l ≤ n ∧ n ≤ h)
theorem l05Is_any (n l h : Int) (w : World) : Calls Try.prog 46 #[.int .i64 n, .int .i64 l, .int .i64 h] w fun e w' => e = .returned (.bool (isB n l h)) ∧ w = w' := by
  by_cases h0 : l ≤ n
  · by_cases h1 : n ≤ h
    · have hh : isB n l h = true := by simp [isB, h0, h1]
      go_enter Try.func46, Try.ntmps46
      go_wp2
      go_ret
      simp_all
    · have hh : isB n l h = false := by simp [isB]; omega
      go_enter Try.func46, Try.ntmps46
      go_wp2
      go_ret
      simp_all
  · have hh : isB n l h = false := by simp [isB]; omega
    go_enter Try.func46, Try.ntmps46
    go_wp2
    go_ret
    simp_all
theorem invTo_s1 (k a : Nat) : (invTo (k + 1) a).2 = mul (invTo k a).2 (invTo k a).2 := rfl
theorem invTo_s0 (k a : Nat) : (invTo (k + 1) a).1 = mul (invTo k a).1 (invTo (k + 1) a).2 := rfl

set_option maxRecDepth 100000 in
theorem l05Inv_any (a : Nat) (w : World) (ha : a < 256) :
    Calls Try.prog 86 #[.int .i64 a] w fun e w' => e = .returned (.int .i64 (inv a : Nat)) ∧ w = w' := by
  have HE : Hid (inv a = (invTo 7 a).1) := rfl
  generalize inv a = z at *
  go_enter Try.func86, Try.ntmps86
  go_wp2
  go_loop [3, 4, 5] (fun n p i => ∃ (k : Nat), k ≤ 7 ∧ i = .int .i64 k ∧ n = .int .i64 ((invTo k a).1 : Nat) ∧ p = .int .i64 ((invTo k a).2 : Nat)) (fun _ _ i => 7 - (intOf i).toNat)
  case atStart => exact ⟨0, by omega, rfl, rfl, rfl⟩
  case round =>
    obtain ⟨k, hk, rfl, rfl, rfl⟩ := hrel
    by_cases hlt : k < 7
    · have HP : Hid ((invTo (k + 1) a).2 = mul (invTo k a).2 (invTo k a).2) := rfl
      have HN : Hid ((invTo (k + 1) a).1 = mul (invTo k a).1 (mul (invTo k a).2 (invTo k a).2)) := rfl
      obtain ⟨l1, l2⟩ := invTo_lt ha k
      generalize h1 : (invTo k a).1 = n at *
      generalize h2 : (invTo k a).2 = p at *
      clear h1 h2
      have l3 : mul p p < 256 := mul_lt l2
      go_wp2_with (first | (go_at_call_of 79 (Value.int .i64 ((p : Nat) : Int)); refine (l05Mul_any _ _ _ l2 l2).mono ?_; rintro e w' ⟨rfl, rfl⟩) | (go_at_call 79; refine (l05Mul_any _ _ _ l1 l3).mono ?_; rintro e w' ⟨rfl, rfl⟩))
      go_round
      case rel => exact ⟨k + 1, by omega, by go_num, val_int (by rw [HN.out]), val_int (by rw [HP.out])⟩
      case measure => simp [intOf]; omega
    · obtain rfl : k = 7 := by omega
      rw [← HE.out]
      generalize (invTo 7 a).2 = p at *
      go_wp2
      go_ret
      exact ⟨rfl, rfl⟩

set_option maxRecDepth 100000 in
theorem implInv_in (a : Nat) (w : World) (ha : a < 256) (h0 : ¬ a = 0) :
    Calls Try.prog 74 #[.int .i64 a] w fun e w' => e = .returned (.int .i64 (inv a : Nat)) ∧ w = w' := by
  have HE : Hid (inv a = (invTo 7 a).1) := rfl
  have ea := el_of ha
  have h0' : (((a : Nat) : Int) == 0) = false := by rw [beq_eq_false_iff_ne]; omega
  generalize inv a = z at *
  go_enter Try.func74, Try.ntmps74
  go_wp2_with (go_at_call 73; refine (isEl_any _ _).mono ?_; rintro e w' ⟨rfl, rfl⟩)
  go_loop [3, 4, 13] (fun n p i => ∃ (k : Nat), k ≤ 7 ∧ i = .int .i64 k ∧ n = .int .i64 ((invTo k a).1 : Nat) ∧ p = .int .i64 ((invTo k a).2 : Nat)) (fun _ _ i => 7 - (intOf i).toNat)
  case atStart => exact ⟨0, by omega, rfl, rfl, rfl⟩
  case round =>
    obtain ⟨k, hk, rfl, rfl, rfl⟩ := hrel
    by_cases hlt : k < 7
    · have HP : Hid ((invTo (k + 1) a).2 = mul (invTo k a).2 (invTo k a).2) := rfl
      have HN : Hid ((invTo (k + 1) a).1 = mul (invTo k a).1 (mul (invTo k a).2 (invTo k a).2)) := rfl
      obtain ⟨l1, l2⟩ := invTo_lt ha k
      generalize h1 : (invTo k a).1 = n at *
      generalize h2 : (invTo k a).2 = p at *
      clear h1 h2
      have l3 : mul p p < 256 := mul_lt l2
      go_wp2_with (first | (go_at_call_of 57 (Value.int .i64 ((p : Nat) : Int)); refine (mulP_any _ _ _ l2 l2).mono ?_; rintro e w' ⟨rfl, rfl⟩) | (go_at_call 57; refine (mulP_any _ _ _ l1 l3).mono ?_; rintro e w' ⟨rfl, rfl⟩))
      go_round
      case rel => exact ⟨k + 1, by omega, by go_num, val_int (by rw [HN.out]), val_int (by rw [HP.out])⟩
      case measure => simp [intOf]; omega
    · obtain rfl : k = 7 := by omega
      rw [← HE.out]
      generalize (invTo 7 a).2 = p at *
      go_wp2
      go_ret
      exact ⟨rfl, rfl⟩

set_option maxRecDepth 100000 in
theorem implInv_any (a : Int) (w : World) :
    Calls Try.prog 74 #[.int .i64 a] w fun e w' => e = .returned (.int .i64 (invZ a)) ∧ w = w' := by
  by_cases ha : el a = true
  · obtain ⟨m, rfl, hm⟩ := el_nat ha
    by_cases h0 : m = 0
    · subst h0
      have ea : el 0 = true := rfl
      go_enter Try.func74, Try.ntmps74
      go_wp2_with (go_at_call 73; refine (isEl_any _ _).mono ?_; rintro e w' ⟨rfl, rfl⟩)
      go_ret
      exact ⟨rfl, rfl⟩
    · rw [invZ_nat hm]
      exact implInv_in m w hm h0
  · have ha' : el a = false := by simpa using ha
    have HZ : Hid (invZ a = 0) := invZ_no ha'
    clear ha
    go_enter Try.func74, Try.ntmps74
    go_wp2_with (go_at_call 73; refine (isEl_any _ _).mono ?_; rintro e w' ⟨rfl, rfl⟩)
    go_ret
    exact ⟨ret_int HZ.out.symm, rfl⟩

theorem is1_yes {m : Nat} (hm : m < 256) (h0 : ¬ m = 0) : isB (m : Int) 1 255 = true := by simp [isB]; omega
theorem is1_no {a : Int} (h : el a = false) : isB a 1 255 = false := by simp [isB, el] at *; omega

theorem implDiv_any (a b : Int) (w : World) :
    Calls Try.prog 59 #[.int .i64 a, .int .i64 b] w fun e w' => e = .returned (.int .i64 (divZ a b)) ∧ w = w' := by
  have HE : Hid (divZ a b = mulZ a (invZ b)) := rfl
  go_enter Try.func59, Try.ntmps59
  go_wp2_with (first | (go_at_call 74; refine (implInv_any _ _).mono ?_; rintro e w' ⟨rfl, rfl⟩) | (go_at_call 57; refine (implMul_any _ _ _).mono ?_; rintro e w' ⟨rfl, rfl⟩))
  go_ret
  exact ⟨rfl, rfl⟩

end Go.Proofs.Ytkanhjafchiikaa.Gf

/- The line through places of chapter 6 as a function of numbers, and lists of numbers in memory. -/
namespace Go.Proofs.Ytkanhjafchiikaa.Gf
open Go.RowKit Go.Proofs.Ytkanhjafchiikaa.Mem

/-- what the value at place i counts at t, the first k places looked at -/
def wt (xs : List Nat) (t i : Nat) : Nat → Nat
  | 0 => 1
  | k + 1 => if k = i then wt xs t i k else mul (wt xs t i k) (mul (t ^^^ xs.getD k 0) (inv (xs.getD i 0 ^^^ xs.getD k 0)))
def weight (xs : List Nat) (t i : Nat) : Nat := wt xs t i xs.length
theorem wt_lt (xs : List Nat) (t i : Nat) : ∀ k, wt xs t i k < 256
  | 0 => by simp [wt]
  | k + 1 => by
    unfold wt; split
    · exact wt_lt xs t i k
    · exact mul_lt (wt_lt xs t i k)
theorem weight_lt (xs : List Nat) (t i : Nat) : weight xs t i < 256 := wt_lt _ _ _ _
def weights (xs : List Nat) (t k : Nat) : List Nat := (List.range k).map (weight xs t)
theorem weights_len (xs : List Nat) (t k : Nat) : (weights xs t k).length = k := by simp [weights]
theorem weights_succ (xs : List Nat) (t k : Nat) : weights xs t (k + 1) = weights xs t k ++ [weight xs t k] := by simp [weights, List.range_succ]
theorem weights_at (xs : List Nat) (t k i : Nat) (h : i < (weights xs t k).length) : (weights xs t k)[i] = weight xs t i := by simp [weights]
/-- the sum of values, each as often as c says; of places from 0 to k -/
def sumTo (c y : Nat → Nat) : Nat → Nat
  | 0 => 0
  | k + 1 => sumTo c y k ^^^ mul (c k) (y k)
theorem sumTo_lt (c y : Nat → Nat) (hc : ∀ i, c i < 256) : ∀ k, sumTo c y k < 256
  | 0 => by simp [sumTo]
  | k + 1 => xor8 (sumTo_lt c y hc k) (mul_lt (hc k))
def line (xs ys : List Nat) (t : Nat) : Nat := sumTo (weight xs t) (fun i => ys.getD i 0) xs.length
def Els (xs : List Nat) : Prop := ∀ x ∈ xs, x < 256
theorem Els.at {xs : List Nat} (h : Els xs) {j : Nat} (hj : j < xs.length) : xs[j] < 256 := h _ (List.getElem_mem hj)

/-- The slice v reads as the numbers xs, each of kind k. -/
def NumsK (k : IntKind) (W : World) (v : Value) (xs : List Nat) : Prop :=
  ∃ a cap, v = .slice a xs.length cap ∧ ∀ j (h : j < xs.length), ∃ b o, a = some ⟨b, o, none⟩ ∧ W.cell? ⟨b, o + j, none⟩ = some (.int k (xs[j] : Nat))
theorem NumsK.below {k : IntKind} {W W' : World} {v : Value} {l : List Nat} (h : NumsK k W v l) (hb : Below W.heap.size W W') : NumsK k W' v l := by
  obtain ⟨a, cap, hv, hc⟩ := h
  refine ⟨a, cap, hv, fun j hj => ?_⟩
  obtain ⟨b, o, ha, hcell⟩ := hc j hj
  refine ⟨b, o, ha, ?_⟩
  rw [hb.cell (World.block_lt_of_cell? W _ hcell)]
  exact hcell
theorem nums_of_ints {W : World} {v : Value} {l : List Int} (h : Harn.Ints W v l) (h0 : ∀ x ∈ l, 0 ≤ x) : NumsK .i64 W v (l.map Int.toNat) := by
  obtain ⟨a, cap, hv, hc⟩ := h
  refine ⟨a, cap, by simpa using hv, fun j hj => ?_⟩
  have hj2 : j < l.length := by simpa using hj
  obtain ⟨b, o, ha, hcell⟩ := hc j hj2
  refine ⟨b, o, ha, ?_⟩
  rw [hcell]
  have := h0 _ (List.getElem_mem hj2)
  simp only [List.getElem_map]
  congr 2; omega
theorem NumsK.shape {k : IntKind} {W : World} {v : Value} {xs : List Nat} (h : NumsK k W v xs) : ∃ a cap, v = .slice a xs.length cap := ⟨_, _, h.choose_spec.choose_spec.1⟩

/-- The cells of numbers. -/
def ncells (k : IntKind) (xs : List Nat) : List Value := xs.map fun x => .int k (x : Nat)
theorem length_ncells (k : IntKind) (xs : List Nat) : (ncells k xs).length = xs.length := by simp [ncells]
theorem ncells_snoc (k : IntKind) (xs : List Nat) (x : Nat) : ncells k (xs ++ [x]) = ncells k xs ++ [.int k (x : Nat)] := by simp [ncells]
/-- A list of numbers that owns its row, or is nil. -/
def OwnN (k : IntKind) (T : TypeId) (W : World) (base : Nat) (v : Value) (xs : List Nat) : Prop := W.ownsRow base T 1 v xs.length (ncells k xs)
theorem OwnN.nums {k : IntKind} {T : TypeId} {W : World} {base : Nat} {v : Value} {xs : List Nat} (h : OwnN k T W base v xs) : NumsK k W v xs := by
  have h0 := h
  rcases h.2 with ⟨rfl, hn⟩ | ⟨g, cap, cur, rfl, _⟩
  · exact ⟨none, 0, by rw [hn], fun j hj => by omega⟩
  · refine ⟨_, cap, rfl, fun j hj => ⟨g, 0, rfl, ?_⟩⟩
    have := World.ownsRow.cellAt h0 j (by omega)
    rw [Nat.zero_add, this]
    simp [ncells, hj]
theorem OwnN.lt {k : IntKind} {T : TypeId} {W : World} {base : Nat} {v : Value} {xs : List Nat} (h : OwnN k T W base v xs) : ∀ g, v.ownBlock = some g → base ≤ g ∧ g < W.heap.size := World.ownsRow.lt h
theorem OwnN.same {k : IntKind} {T : TypeId} {W W' : World} {base B : Nat} {v : Value} {l : List Nat} (h : OwnN k T W base v l) (hb : ∀ g, v.ownBlock = some g → W'.heap[g]? = W.heap[g]?) (hB : B ≤ base) : OwnN k T W' B v l := by
  obtain ⟨h1, h2⟩ := h
  refine ⟨h1, ?_⟩
  rcases h2 with ⟨rfl, h2⟩ | ⟨g, cap, cur, rfl, e2, e3, e4⟩
  · exact .inl ⟨rfl, h2⟩
  · exact .inr ⟨g, cap, cur, rfl, by omega, (hb g rfl).trans e3, e4⟩
theorem OwnN.below {k : IntKind} {T : TypeId} {W W' : World} {base B : Nat} {v : Value} {l : List Nat} (h : OwnN k T W base v l) (hb : Below W.heap.size W W') (hB : B ≤ base) : OwnN k T W' B v l := h.same (fun g hg => hb.block g (h.lt g hg).2) hB
theorem OwnN.drewN {k : IntKind} {T : TypeId} {W : World} {base : Nat} {v : Value} {l : List Nat} (h : OwnN k T W base v l) (n : Nat) : OwnN k T (W.drewN n) base v l := h
theorem ownN_empty (k : IntKind) (T : TypeId) (w : World) (base : Nat) (h : base ≤ w.heap.size) : OwnN k T (w.alloc (.cells #[] T)) base (.slice (some ⟨w.heap.size, 0, none⟩) 0 0) [] :=
  w.ownsRow_made #[] 0 h (by unfold maxLen; omega) (by simp)

theorem addr_add0 (b j : Nat) : (⟨b, 0, none⟩ : Addr).add j = ⟨b, j, none⟩ := by unfold Addr.add; split <;> simp_all
theorem infoI64' : (Try.prog.info? 2).map (fun i => (i.zero, i.size, i.bytes)) = some (some (.int .i64 0), 1, 8) := by kernel_rfl
/-- 'append(xs, x)' of a number. -/
theorem app_i64 (ty : TypeId) (base b : Nat) (v : Value) (xs : List Nat) (x : Nat) (W : World) (h : OwnN .i64 2 W base v xs) (hbase : base ≤ W.heap.size) (h0 : W.cell? ⟨b, 0, none⟩ = some (.int .i64 (x : Nat))) (hn : xs.length ≤ 1100000) :
    ∃ g' cap W1, (Builtin.append_ #[58, 58] ty #[v, .slice (some ⟨b, 0, none⟩) 1 1]).run Try.prog W = .ok (.slice (some ⟨g', 0, none⟩) (xs.length + 1) cap) W1 ∧ OwnN .i64 2 W1 base (.slice (some ⟨g', 0, none⟩) (xs.length + 1) cap) (xs ++ [x]) ∧ (v.ownBlock = some g' ∨ g' = W.heap.size) ∧ g' < W1.heap.size ∧ Below base W W1 := by
  obtain ⟨i, hi0, hz0, hz1, hz2⟩ := info_parts infoI64'
  obtain ⟨g', cap, W1, hr, hown, hgr, hat, hlt⟩ := run_append_lies (P := Try.prog) W 58 ty base 2 i (.int .i64 0) 1 8 Harn.underI64s hi0 hz0 hz1 hz2 rfl (by omega) v xs.length (ncells .i64 xs) h ⟨b, 0, none⟩ 1 1 [.int .i64 (x : Nat)] rfl (fun j u hu => by
    rw [addr_add0]
    rcases j with _ | j
    · simp at hu; rw [h0, hu]
    · simp at hu) (by simp [Value.oneCell']) (by omega) (by unfold maxLen; omega) (by omega) hbase W.heap.size rfl
  exact ⟨g', cap, W1, hr, by unfold OwnN; rw [ncells_snoc]; simpa using hown, hat, hlt, (Below.refl base W).grown hgr hbase (fun j hj => (World.ownsRow.lt h j hj).1)⟩
/-- a call of 'append' whose run is known -/
theorem wp_app1 {P : Program} {w : World} {ops : Array Oper} {rest : List Oper} {o : Oper} {a : Act} {Q : Exit → Act → World → Prop} (hgd : o.guard = none) (s x : Operand) (t : TypeId)
    (ho : o.op = .call { callee := .builtin .append, args := #[s, x], argTypes := #[t, t] }) (v u r : Value) (w' : World) (hs : a.eval s = v) (hx : a.eval x = u)
    (hr : (Builtin.append_ #[t, t] o.type #[v, u]).run P w = .ok r w') (h : wpList P ops Q rest (a.put o.dst r) w') : wpList P ops Q (o :: rest) a w :=
  wpList_plain hgd fun _ hK => by
    unfold Oper.wp execOp
    simp only [ho, resolve, invoke, builtin, Sem.run_bind, Sem.run_pure, Result.andThen_ok, List.map_toArray, List.map_cons, List.map_nil, hs, hx, hr]
    exact hK _ _ h
theorem wp_i64 {w : World} {ops : Array Oper} {rest : List Oper} {o : Oper} {a : Act} {Q : Exit → Act → World → Prop} (hgd : o.guard = none) (s x : Operand)
    (ho : o.op = .call { callee := .builtin .append, args := #[s, x], argTypes := #[58, 58] }) (base b : Nat) (v : Value) (xs : List Nat) (y : Nat) (hs : a.eval s = v) (hx : a.eval x = .slice (some ⟨b, 0, none⟩) 1 1)
    (h : OwnN .i64 2 w base v xs) (hbase : base ≤ w.heap.size) (h0 : w.cell? ⟨b, 0, none⟩ = some (.int .i64 (y : Nat))) (hn : xs.length ≤ 1100000)
    (hK : ∀ g cap w', OwnN .i64 2 w' base (.slice (some ⟨g, 0, none⟩) (xs.length + 1) cap) (xs ++ [y]) → Below base w w' → w.heap.size ≤ w'.heap.size → wpList Try.prog ops Q rest (a.put o.dst (.slice (some ⟨g, 0, none⟩) (xs.length + 1) cap)) w') : wpList Try.prog ops Q (o :: rest) a w := by
  obtain ⟨g', cap, w', hr, a1, _, _, a4⟩ := app_i64 o.type base b v xs y w h hbase h0 hn
  exact wp_app1 hgd s x _ ho _ _ _ w' hs hx hr (hK g' cap w' a1 a4 a4.size)
theorem cell_new (W : World) (v : Value) (T : TypeId) : (W.alloc (.cells #[v] T)).cell? ⟨W.heap.size, 0, none⟩ = some v := by simp
theorem size_new {B : Nat} {W : World} (h : B ≤ W.heap.size) (o : Obj) : B ≤ (W.alloc o).heap.size := by simp; omega
end Go.Proofs.Ytkanhjafchiikaa.Gf

/- A list of values of one cell each that the call itself appends to; texts. -/
namespace Go.Proofs.Ytkanhjafchiikaa.Gf
open Go.RowKit Go.Proofs.Ytkanhjafchiikaa.Mem Go.Proofs.Ytkanhjafchiikaa.Harn

def OwnV (T : TypeId) (W : World) (base : Nat) (v : Value) (cs : List Value) : Prop := W.ownsRow base T 1 v cs.length cs
theorem OwnV.lt {T : TypeId} {W : World} {base : Nat} {v : Value} {cs : List Value} (h : OwnV T W base v cs) : ∀ g, v.ownBlock = some g → base ≤ g ∧ g < W.heap.size := World.ownsRow.lt h
theorem OwnV.same {T : TypeId} {W W' : World} {base B : Nat} {v : Value} {l : List Value} (h : OwnV T W base v l) (hb : ∀ g, v.ownBlock = some g → W'.heap[g]? = W.heap[g]?) (hB : B ≤ base) : OwnV T W' B v l := by
  obtain ⟨h1, h2⟩ := h
  refine ⟨h1, ?_⟩
  rcases h2 with ⟨rfl, h2⟩ | ⟨g, cap, cur, rfl, e2, e3, e4⟩
  · exact .inl ⟨rfl, h2⟩
  · exact .inr ⟨g, cap, cur, rfl, by omega, (hb g rfl).trans e3, e4⟩
theorem OwnV.below {T : TypeId} {W W' : World} {base B : Nat} {v : Value} {l : List Value} (h : OwnV T W base v l) (hb : Below W.heap.size W W') (hB : B ≤ base) : OwnV T W' B v l := h.same (fun g hg => hb.block g (h.lt g hg).2) hB
theorem ownV_empty (T : TypeId) (w : World) (base : Nat) (h : base ≤ w.heap.size) : OwnV T (w.alloc (.cells #[] T)) base (.slice (some ⟨w.heap.size, 0, none⟩) 0 0) [] :=
  w.ownsRow_made #[] 0 h (by unfold maxLen; omega) (by simp)
theorem OwnV.cells {T : TypeId} {W : World} {base : Nat} {v : Value} {cs : List Value} (h : OwnV T W base v cs) : ∃ a cap, v = .slice a cs.length cap ∧ cs.length ≤ cap ∧ ∀ j (_ : j < cs.length), ∃ g, a = some ⟨g, 0, none⟩ ∧ W.cell? ⟨g, j, none⟩ = cs[j]? ∧ W.frozen? ⟨g, j, none⟩ = false := by
  have h0 := h
  rcases h.2 with ⟨rfl, hn⟩ | ⟨g, cap, cur, rfl, _, _, e3, e4, _⟩
  · exact ⟨none, 0, by rw [hn], by omega, fun j hj => by omega⟩
  · refine ⟨_, cap, rfl, by omega, fun j hj => ⟨g, rfl, World.ownsRow.cellAt h0 j (by omega), World.ownsRow.frozenAt h0 _⟩⟩

theorem app_val {P : Program} (t ty T : TypeId) (z : Value) (bytes : Nat) (ht : P.underlying t = some (.slice T)) (hi : (P.info? T).map (fun i => (i.zero, i.size, i.bytes)) = some (some z, 1, bytes)) (hzs : z.cells.size = 1) (hby : bytes ≤ 64) (base b : Nat) (v : Value) (cs : List Value) (u : Value) (W : World) (h : OwnV T W base v cs) (hbase : base ≤ W.heap.size) (h0 : W.cell? ⟨b, 0, none⟩ = some u) (h1 : u.oneCell' = true) (hn : cs.length ≤ 1100000) :
    ∃ g' cap W1, (Builtin.append_ #[t, t] ty #[v, .slice (some ⟨b, 0, none⟩) 1 1]).run P W = .ok (.slice (some ⟨g', 0, none⟩) (cs.length + 1) cap) W1 ∧ OwnV T W1 base (.slice (some ⟨g', 0, none⟩) (cs.length + 1) cap) (cs ++ [u]) ∧ (v.ownBlock = some g' ∨ g' = W.heap.size) ∧ g' < W1.heap.size ∧ W.grownBy W1 v.ownBlock := by
  obtain ⟨i, hi0, hz0, hz1, hz2⟩ := info_parts hi
  obtain ⟨g', cap, W1, hr, hown, hgr, hat, hlt⟩ := run_append_lies (P := P) W t ty base T i z 1 bytes ht hi0 hz0 hz1 hz2 hzs (by omega) v cs.length cs h ⟨b, 0, none⟩ 1 1 [u] rfl (fun j x hx => by
    rw [addr_add0]
    rcases j with _ | j
    · simp at hx; rw [h0, hx]
    · simp at hx) (by simp [h1]) (by omega) (by unfold maxLen; omega) (by
      have : (cs.length + 1) * bytes ≤ 1100001 * 64 := Nat.mul_le_mul (by omega) hby
      omega) hbase W.heap.size rfl
  exact ⟨g', cap, W1, hr, by unfold OwnV; simpa using hown, hat, hlt, hgr⟩
theorem wp_val {P : Program} {w : World} {ops : Array Oper} {rest : List Oper} {o : Oper} {a : Act} {Q : Exit → Act → World → Prop} (hgd : o.guard = none) (s x : Operand) (t T : TypeId) (z : Value) (bytes : Nat)
    (ho : o.op = .call { callee := .builtin .append, args := #[s, x], argTypes := #[t, t] }) (ht : P.underlying t = some (.slice T)) (hi : (P.info? T).map (fun i => (i.zero, i.size, i.bytes)) = some (some z, 1, bytes)) (hzs : z.cells.size = 1) (hby : bytes ≤ 64) (base b : Nat) (v : Value) (cs : List Value) (y : Value) (hs : a.eval s = v) (hx : a.eval x = .slice (some ⟨b, 0, none⟩) 1 1)
    (h : OwnV T w base v cs) (hbase : base ≤ w.heap.size) (h0 : w.cell? ⟨b, 0, none⟩ = some y) (h1 : y.oneCell' = true) (hn : cs.length ≤ 1100000)
    (hK : ∀ g cap w', OwnV T w' base (.slice (some ⟨g, 0, none⟩) (cs.length + 1) cap) (cs ++ [y]) → Below base w w' → w.heap.size ≤ w'.heap.size → wpList P ops Q rest (a.put o.dst (.slice (some ⟨g, 0, none⟩) (cs.length + 1) cap)) w') : wpList P ops Q (o :: rest) a w := by
  obtain ⟨g', cap, w', hr, a1, _, _, a4⟩ := app_val t o.type T z bytes ht hi hzs hby base b v cs y w h hbase h0 h1 hn
  have hb := (Below.refl base w).grown a4 hbase (fun j hj => (World.ownsRow.lt h j hj).1)
  exact wp_app1 hgd s x _ ho _ _ _ w' hs hx hr (hK g' cap w' a1 hb hb.size)

/-- A list of texts that owns its row, or is nil. -/
def OwnS (W : World) (base : Nat) (v : Value) (ls : List ByteArray) : Prop := OwnV 9 W base v (ls.map Value.string)
theorem OwnS.strs {W : World} {base : Nat} {v : Value} {ls : List ByteArray} (h : OwnS W base v ls) : Strs W v ls := by
  obtain ⟨a, cap, rfl, _, hc⟩ := OwnV.cells h
  have hl : (ls.map Value.string).length = ls.length := by simp
  refine ⟨a, cap, by rw [hl], fun j hj => ?_⟩
  obtain ⟨g, rfl, c, _⟩ := hc j (by omega)
  exact ⟨g, 0, rfl, by rw [Nat.zero_add, c]; simp [hj]⟩
theorem wp_str {w : World} {ops : Array Oper} {rest : List Oper} {o : Oper} {a : Act} {Q : Exit → Act → World → Prop} (hgd : o.guard = none) (s x : Operand)
    (ho : o.op = .call { callee := .builtin .append, args := #[s, x], argTypes := #[25, 25] }) (base b : Nat) (v : Value) (ls : List ByteArray) (y : ByteArray) (hs : a.eval s = v) (hx : a.eval x = .slice (some ⟨b, 0, none⟩) 1 1)
    (h : OwnS w base v ls) (hbase : base ≤ w.heap.size) (h0 : w.cell? ⟨b, 0, none⟩ = some (.string y)) (hn : ls.length ≤ 1100000)
    (hK : ∀ g cap w', OwnS w' base (.slice (some ⟨g, 0, none⟩) (ls.length + 1) cap) (ls ++ [y]) → Below base w w' → w.heap.size ≤ w'.heap.size → wpList Try.prog ops Q rest (a.put o.dst (.slice (some ⟨g, 0, none⟩) (ls.length + 1) cap)) w') : wpList Try.prog ops Q (o :: rest) a w :=
  wp_val hgd s x _ _ _ 16 ho underStrs infoStr rfl (by omega) base b v (ls.map Value.string) (.string y) hs hx h hbase h0 rfl (by simpa using hn) (fun g cap w' h1 h2 h3 => by
    have := hK g cap w' (by unfold OwnS; rw [List.map_append]; simpa using h1) h2 h3
    simpa using this)
theorem OwnS.below {W W' : World} {base B : Nat} {v : Value} {l : List ByteArray} (h : OwnS W base v l) (hb : Below W.heap.size W W') (hB : B ≤ base) : OwnS W' B v l := OwnV.below h hb hB
theorem OwnS.alloc {W : World} {base : Nat} {v : Value} {l : List ByteArray} (h : OwnS W base v l) (o : Obj) : OwnS (W.alloc o) base v l := OwnS.below h ((Below.refl _ _).alloc (Nat.le_refl _) _) (Nat.le_refl _)
theorem OwnV.alloc {T : TypeId} {W : World} {base : Nat} {v : Value} {l : List Value} (h : OwnV T W base v l) (o : Obj) : OwnV T (W.alloc o) base v l := OwnV.below h ((Below.refl _ _).alloc (Nat.le_refl _) _) (Nat.le_refl _)
end Go.Proofs.Ytkanhjafchiikaa.Gf

/- Two lists of the call's own that share no block, and appends to one of them. -/
namespace Go.Proofs.Ytkanhjafchiikaa.Gf
open Go.RowKit Go.Proofs.Ytkanhjafchiikaa.Mem Go.Proofs.Ytkanhjafchiikaa.Harn

structure Two (T U : TypeId) (W : World) (base : Nat) (v : Value) (cs : List Value) (u : Value) (ds : List Value) : Prop where
  l : OwnV T W base v cs
  r : OwnV U W base u ds
  far : ∀ g, v.ownBlock = some g → u.ownBlock ≠ some g
theorem Two.swap {T U : TypeId} {W : World} {base : Nat} {v u : Value} {cs ds : List Value} (h : Two T U W base v cs u ds) : Two U T W base u ds v cs := ⟨h.r, h.l, fun g h1 h2 => h.far g h2 h1⟩
theorem Two.below {T U : TypeId} {W W' : World} {base : Nat} {v u : Value} {cs ds : List Value} (h : Two T U W base v cs u ds) (hb : Below W.heap.size W W') : Two T U W' base v cs u ds := ⟨h.l.below hb (Nat.le_refl _), h.r.below hb (Nat.le_refl _), h.far⟩
theorem Two.alloc {T U : TypeId} {W : World} {base : Nat} {v u : Value} {cs ds : List Value} (h : Two T U W base v cs u ds) (o : Obj) : Two T U (W.alloc o) base v cs u ds := h.below ((Below.refl _ _).alloc (Nat.le_refl _) _)
/-- behind what turns one block below base alone -/
theorem Two.grown {T U : TypeId} {W W' : World} {base g : Nat} {v u : Value} {cs ds : List Value} (h : Two T U W base v cs u ds) (hg : W.grownBy W' (some g)) (hb : g < base) : Two T U W' base v cs u ds :=
  ⟨h.l.same (fun k hk => hg.block k (h.l.lt k hk).2 (fun e => by injection e with e; have := (h.l.lt k hk).1; omega)) (Nat.le_refl _), h.r.same (fun k hk => hg.block k (h.r.lt k hk).2 (fun e => by injection e with e; have := (h.r.lt k hk).1; omega)) (Nat.le_refl _), h.far⟩
theorem two_empty (T U : TypeId) (w : World) (base : Nat) (h : base ≤ w.heap.size) : Two T U ((w.alloc (.cells #[] T)).alloc (.cells #[] U)) base (.slice (some ⟨w.heap.size, 0, none⟩) 0 0) [] (.slice (some ⟨w.heap.size + 1, 0, none⟩) 0 0) [] := by
  refine ⟨OwnV.alloc (ownV_empty T w base h) _, ?_, fun g h1 h2 => ?_⟩
  · have := ownV_empty U (w.alloc (.cells #[] T)) base (by simp; omega)
    simpa using this
  · simp [Value.ownBlock] at h1 h2; omega

theorem wp_two {P : Program} {w : World} {ops : Array Oper} {rest : List Oper} {o : Oper} {a : Act} {Q : Exit → Act → World → Prop} (hgd : o.guard = none) (s x : Operand) (t T U : TypeId) (z : Value) (bytes : Nat)
    (ho : o.op = .call { callee := .builtin .append, args := #[s, x], argTypes := #[t, t] }) (ht : P.underlying t = some (.slice T)) (hi : (P.info? T).map (fun i => (i.zero, i.size, i.bytes)) = some (some z, 1, bytes)) (hzs : z.cells.size = 1) (hby : bytes ≤ 64) (base b : Nat) (v u : Value) (cs ds : List Value) (y : Value) (hs : a.eval s = v) (hx : a.eval x = .slice (some ⟨b, 0, none⟩) 1 1)
    (h : Two T U w base v cs u ds) (hbase : base ≤ w.heap.size) (h0 : w.cell? ⟨b, 0, none⟩ = some y) (h1 : y.oneCell' = true) (hn : cs.length ≤ 1100000)
    (hK : ∀ g cap w', Two T U w' base (.slice (some ⟨g, 0, none⟩) (cs.length + 1) cap) (cs ++ [y]) u ds → Below base w w' → w.heap.size ≤ w'.heap.size → wpList P ops Q rest (a.put o.dst (.slice (some ⟨g, 0, none⟩) (cs.length + 1) cap)) w') : wpList P ops Q (o :: rest) a w := by
  obtain ⟨g', cap, w', hr, a1, a2, a3, a4⟩ := app_val t o.type T z bytes ht hi hzs hby base b v cs y w h.l hbase h0 h1 hn
  have hb := (Below.refl base w).grown a4 hbase (fun j hj => (World.ownsRow.lt h.l j hj).1)
  refine wp_app1 hgd s x _ ho _ _ _ w' hs hx hr (hK g' cap w' ⟨a1, ?_, ?_⟩ hb hb.size)
  · exact h.r.same (fun k hk => a4.block k (h.r.lt k hk).2 (fun e => h.far k e.symm hk)) (Nat.le_refl _)
  · intro k hk hk2
    simp [Value.ownBlock] at hk
    subst hk
    rcases a2 with a2 | a2
    · exact h.far _ a2 hk2
    · have := (h.r.lt _ hk2).2; omega

/-- A list of whole numbers as cells. -/
def zcells (l : List Int) : List Value := l.map (Value.int .i64)
theorem OwnV.ints {W : World} {base : Nat} {v : Value} {l : List Int} (h : OwnV 2 W base v (zcells l)) : Ints W v l := by
  obtain ⟨a, cap, rfl, _, hc⟩ := OwnV.cells h
  have hl : (zcells l).length = l.length := by simp [zcells]
  refine ⟨a, cap, by rw [hl], fun j hj => ?_⟩
  obtain ⟨g, rfl, c, _⟩ := hc j (by omega)
  exact ⟨g, 0, rfl, by rw [Nat.zero_add, c]; simp [zcells, hj]⟩
theorem OwnV.caps {T : TypeId} {W : World} {base : Nat} {v : Value} {l : List Value} (h : OwnV T W base v l) : ∀ a n c, v = .slice a n c → n ≤ c := by
  obtain ⟨a, cap, rfl, hle, _⟩ := OwnV.cells h
  rintro a' n c hh
  injection hh with h1 h2 h3
  omega
end Go.Proofs.Ytkanhjafchiikaa.Gf
