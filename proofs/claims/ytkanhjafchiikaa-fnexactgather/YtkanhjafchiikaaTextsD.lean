/- Laws that the proof rests on, put together: What Interp asks and answers, as a function of lists of numbers. What the program's lineRight answers. The line through places at one of these places. -/
import Derived.Test.YtkanhjafchiikaaSpecWeights
/- What Interp asks and answers, as a function of lists of numbers. -/
namespace Go.Proofs.Ytkanhjafchiikaa.Gf
open Go.RowKit Go.Proofs.Ytkanhjafchiikaa.Mem

def okAt (xs ys : List Int) (i : Nat) : Bool := el (xs.getD i 0) && el (ys.getD i 0) && (List.range i).all fun j => decide (xs.getD j 0 ≠ xs.getD i 0)
def okAll (xs ys : List Int) : Bool := (List.range xs.length).all (okAt xs ys)
def headOk (xs ys : List Int) (t : Int) : Bool := decide (1 ≤ xs.length) && decide (xs.length ≤ 10) && decide (ys.length = xs.length) && el t
def lineOk (xs ys : List Int) (t : Int) : Bool := headOk xs ys t && okAll xs ys
def interpZ (xs ys : List Int) (t : Int) : Int := if lineOk xs ys t then (line (xs.map Int.toNat) (ys.map Int.toNat) t.toNat : Nat) else 0

theorem getZ {xs : List Int} {j : Nat} (h : j < xs.length) : xs.getD j 0 = xs[j] := by simp [List.getD, h]
theorem okAt_no1 {xs ys : List Int} {i : Nat} (h : el (xs.getD i 0) = false) : okAt xs ys i = false := by unfold okAt; rw [h]; rfl
theorem okAt_no2 {xs ys : List Int} {i : Nat} (h : el (ys.getD i 0) = false) : okAt xs ys i = false := by unfold okAt; rw [h, Bool.and_false]; rfl
theorem okAt_no3 {xs ys : List Int} {i j : Nat} (hj : j < i) (h : xs.getD j 0 = xs.getD i 0) : okAt xs ys i = false := by
  have : ((List.range i).all fun j => decide (xs.getD j 0 ≠ xs.getD i 0)) = false := by
    rw [List.all_eq_false]
    exact ⟨j, by simpa using hj, by rw [h]; simp⟩
  unfold okAt; rw [this]; simp
theorem okAt_yes {xs ys : List Int} {i : Nat} (h1 : el (xs.getD i 0) = true) (h2 : el (ys.getD i 0) = true) (h : ∀ j, j < i → xs.getD j 0 ≠ xs.getD i 0) : okAt xs ys i = true := by
  unfold okAt
  rw [h1, h2, Bool.and_self, Bool.true_and, List.all_eq_true]
  intro j hj
  simpa using h j (by simpa using hj)
theorem okAll_no {xs ys : List Int} {i : Nat} (hi : i < xs.length) (h : okAt xs ys i = false) : okAll xs ys = false := by
  unfold okAll
  rw [List.all_eq_false]
  exact ⟨i, by simpa using hi, by simp [h]⟩
theorem okAll_yes {xs ys : List Int} (h : ∀ i, i < xs.length → okAt xs ys i = true) : okAll xs ys = true := by
  unfold okAll
  rw [List.all_eq_true]
  intro i hi
  exact h i (by simpa using hi)
theorem okAt_el1 {xs ys : List Int} {i : Nat} (h : okAt xs ys i = true) : el (xs.getD i 0) = true := by unfold okAt at h; rw [Bool.and_eq_true, Bool.and_eq_true] at h; exact h.1.1
theorem okAt_el2 {xs ys : List Int} {i : Nat} (h : okAt xs ys i = true) : el (ys.getD i 0) = true := by unfold okAt at h; rw [Bool.and_eq_true, Bool.and_eq_true] at h; exact h.1.2
theorem okAt_ne {xs ys : List Int} {i : Nat} (h : okAt xs ys i = true) (j : Nat) (hj : j < i) : xs.getD j 0 ≠ xs.getD i 0 := by
  unfold okAt at h
  rw [Bool.and_eq_true, List.all_eq_true] at h
  have := h.2 j (by simpa using hj)
  simpa using this
theorem okAll_at {xs ys : List Int} (h : okAll xs ys = true) (i : Nat) (hi : i < xs.length) : okAt xs ys i = true := by
  unfold okAll at h
  rw [List.all_eq_true] at h
  exact h i (by simpa using hi)
theorem interp_no {xs ys : List Int} {t : Int} (h : lineOk xs ys t = false) : interpZ xs ys t = 0 := by unfold interpZ; rw [h]; rfl
theorem interp_no' {xs ys : List Int} {t : Int} {i : Nat} (hi : i < xs.length) (h : okAt xs ys i = false) : interpZ xs ys t = 0 := by
  apply interp_no; unfold lineOk; rw [okAll_no hi h]; simp
theorem interp_yes {xs ys : List Int} {t : Int} (hh : headOk xs ys t = true) (h : ∀ i, i < xs.length → okAt xs ys i = true) : interpZ xs ys t = (line (xs.map Int.toNat) (ys.map Int.toNat) t.toNat : Nat) := by
  unfold interpZ; rw [if_pos]; unfold lineOk; rw [hh, okAll_yes h]; rfl
theorem el_bd {a : Int} (h : el a = true) : 0 ≤ a ∧ a ≤ 255 := by simpa [el] using h
theorem els_of {xs ys : List Int} (hl : ys.length = xs.length) (h : ∀ i, i < xs.length → okAt xs ys i = true) : (∀ x ∈ xs, 0 ≤ x) ∧ (∀ x ∈ ys, 0 ≤ x) ∧ Els (xs.map Int.toNat) ∧ Els (ys.map Int.toNat) := by
  have h1 : ∀ x ∈ xs, 0 ≤ x ∧ x ≤ 255 := fun x hx => by
    obtain ⟨i, hi, rfl⟩ := List.getElem_of_mem hx
    have := el_bd (okAt_el1 (h i hi)); rwa [getZ hi] at this
  have h2 : ∀ x ∈ ys, 0 ≤ x ∧ x ≤ 255 := fun x hx => by
    obtain ⟨i, hi, rfl⟩ := List.getElem_of_mem hx
    have := el_bd (okAt_el2 (h i (by omega))); rwa [getZ hi] at this
  refine ⟨fun x hx => (h1 x hx).1, fun x hx => (h2 x hx).1, fun x hx => ?_, fun x hx => ?_⟩
  · obtain ⟨y, hy, rfl⟩ := List.mem_map.1 hx; have := h1 y hy; omega
  · obtain ⟨y, hy, rfl⟩ := List.mem_map.1 hx; have := h2 y hy; omega
theorem headOk_parts {xs ys : List Int} {t : Int} (h : headOk xs ys t = true) : 1 ≤ xs.length ∧ xs.length ≤ 10 ∧ ys.length = xs.length ∧ el t = true := by
  unfold headOk at h; simp only [Bool.and_eq_true, decide_eq_true_eq] at h; exact ⟨h.1.1.1, h.1.1.2, h.1.2, h.2⟩
theorem headOk_not {xs ys : List Int} {t : Int} (h : headOk xs ys t = false) : xs.length < 1 ∨ (¬ xs.length < 1 ∧ 10 < xs.length) ∨ (¬ xs.length < 1 ∧ ¬ 10 < xs.length ∧ ¬ ys.length = xs.length) ∨ (¬ xs.length < 1 ∧ ¬ 10 < xs.length ∧ ys.length = xs.length ∧ el t = false) := by
  by_cases h1 : xs.length < 1
  · exact .inl h1
  · by_cases h2 : 10 < xs.length
    · exact .inr (.inl ⟨h1, h2⟩)
    · by_cases h3 : ys.length = xs.length
      · refine .inr (.inr (.inr ⟨h1, h2, h3, ?_⟩))
        have a1 : decide (1 ≤ xs.length) = true := decide_eq_true (by omega)
        have a2 : decide (xs.length ≤ 10) = true := decide_eq_true (by omega)
        have a3 : decide (ys.length = xs.length) = true := decide_eq_true h3
        unfold headOk at h
        rw [a1, a2, a3] at h; simpa using h
      · exact .inr (.inr (.inl ⟨h1, h2, h3⟩))
theorem interp_head {xs ys : List Int} {t : Int} (h : headOk xs ys t = false) : interpZ xs ys t = 0 := by
  apply interp_no; unfold lineOk; rw [h]; rfl
theorem sumTo_map (xs ys : List Int) (t : Nat) (k : Nat) (hk : k < ys.length) (y : Nat) (hy : ys[k] = (y : Nat)) :
    sumTo (weight (xs.map Int.toNat) t) (fun i => (ys.map Int.toNat).getD i 0) (k + 1) = sumTo (weight (xs.map Int.toNat) t) (fun i => (ys.map Int.toNat).getD i 0) k ^^^ mul (weight (xs.map Int.toNat) t k) y := by
  rw [sumTo]
  have : (ys.map Int.toNat).getD k 0 = y := by simp [List.getD, hk, hy]
  rw [this]
end Go.Proofs.Ytkanhjafchiikaa.Gf

/- What the program's lineRight answers. -/
namespace Go.Proofs.Ytkanhjafchiikaa.Gf
open Go.RowKit Go.Proofs.Ytkanhjafchiikaa.Mem

theorem isEl2_any (a : Int) (w : World) : Calls Try.prog 73 #[.int .i64 a] w fun e w' => e = .returned (.bool (el a)) ∧ w = w' := (isEl_any a w).mono fun _ _ h => ⟨h.1, h.2.symm⟩
theorem lineOk_yes {xs ys : List Int} {t : Int} (hh : headOk xs ys t = true) (h : ∀ i, i < xs.length → okAt xs ys i = true) : lineOk xs ys t = true := by unfold lineOk; rw [hh, okAll_yes h]; rfl
theorem lineOk_no {xs ys : List Int} {t : Int} {i : Nat} (hi : i < xs.length) (h : okAt xs ys i = false) : lineOk xs ys t = false := by unfold lineOk; rw [okAll_no hi h]; simp
theorem lineOk_head {xs ys : List Int} {t : Int} (h : headOk xs ys t = false) : lineOk xs ys t = false := by unfold lineOk; rw [h]; rfl

end Go.Proofs.Ytkanhjafchiikaa.Gf

/- The line through places at one of these places. -/
namespace Go.Proofs.Ytkanhjafchiikaa.Gf
open Go.RowKit

theorem els_getD {xs : List Nat} (h : Els xs) (j : Nat) : xs.getD j 0 < 256 := by
  by_cases hj : j < xs.length
  · rw [getD_at hj]; exact h.at hj
  · simp [List.getD, List.getElem?_eq_none (Nat.le_of_not_lt hj)]
theorem xor_ne {a b : Nat} (h : a ≠ b) : a ^^^ b ≠ 0 := fun e => h (by
  have h2 : a ^^^ b ^^^ b = a := by rw [Nat.xor_assoc, Nat.xor_self, Nat.xor_zero]
  rw [e, Nat.zero_xor] at h2
  exact h2.symm)
theorem wt_self {xs : List Nat} (hx : Els xs) (i : Nat) (hd : ∀ j, j < xs.length → j ≠ i → xs.getD j 0 ≠ xs.getD i 0) : ∀ k, k ≤ xs.length → wt xs (xs.getD i 0) i k = 1
  | 0, _ => rfl
  | k + 1, hk => by
    rw [wt, wt_self hx i hd k (by omega)]
    split
    · rfl
    · rename_i hne
      have h1 := xor8 (els_getD hx i) (els_getD hx k)
      rw [mul_inv h1 (xor_ne (fun e => hd k (by omega) hne e.symm)), mul_one (by omega)]
theorem wt_other {xs : List Nat} (i j : Nat) (hij : i ≠ j) : ∀ k, i < k → wt xs (xs.getD i 0) j k = 0
  | 0, h => by omega
  | k + 1, h => by
    rw [wt]
    split
    · exact wt_other i j hij k (by omega)
    · by_cases e : i = k
      · subst e
        rw [Nat.xor_self, zero_mul, mul_zero]
      · rw [wt_other i j hij k (by omega), zero_mul]
theorem sumTo_delta {c y : Nat → Nat} {i : Nat} (h1 : c i = 1) (h0 : ∀ j, j ≠ i → c j = 0 ∨ y j = 0) (hy : y i < 256) : ∀ k, sumTo c y k = if i < k then y i else 0
  | 0 => by simp [sumTo]
  | k + 1 => by
    rw [sumTo, sumTo_delta h1 h0 hy k]
    by_cases e : k = i
    · subst e
      rw [h1, one_mul hy]; simp
    · have hz : mul (c k) (y k) = 0 := by
        rcases h0 k e with h | h
        · rw [h, zero_mul]
        · rw [h, mul_zero]
      rw [hz, Nat.xor_zero]
      by_cases e2 : i < k
      · rw [if_pos e2, if_pos (by omega)]
      · rw [if_neg e2, if_neg (by omega)]
theorem line_at {xs ys : List Nat} (hx : Els xs) (hy : Els ys) (i : Nat) (hi : i < xs.length) (hl : ys.length = xs.length) (hd : ∀ j, j < xs.length → j ≠ i → xs.getD j 0 ≠ xs.getD i 0) : line xs ys (xs.getD i 0) = ys.getD i 0 := by
  unfold line
  have h1 : weight xs (xs.getD i 0) i = 1 := wt_self hx i hd _ (Nat.le_refl _)
  rw [sumTo_delta (c := weight xs (xs.getD i 0)) (i := i) h1 (fun j hj => by
    by_cases h : j < xs.length
    · exact .inl (wt_other i j (fun e => hj e.symm) _ hi)
    · right
      simp [List.getD, List.getElem?_eq_none (show ys.length ≤ j by omega)]) (els_getD hy i)]
  rw [if_pos hi]

/-- the two lists may be those of a line -/
def Fine (xs ys : List Int) (i : Nat) : Prop := ∀ j, j < xs.length → el (xs.getD j 0) = true ∧ el (ys.getD j 0) = true ∧ (j ≠ i → xs.getD j 0 ≠ xs.getD i 0)
theorem getD_map (l : List Int) (i : Nat) : (l.map Int.toNat).getD i 0 = (l.getD i 0).toNat := by
  by_cases h : i < l.length
  · simp [List.getD, h]
  · simp [List.getD, h]
theorem interp_at {xs ys : List Int} {i : Nat} (hi : i < xs.length) (hl : ys.length = xs.length) (hn : xs.length ≤ 10) (h : ∀ i, i < xs.length → Fine xs ys i) : interpZ xs ys (xs.getD i 0) = ys.getD i 0 := by
  have hok : ∀ j, j < xs.length → okAt xs ys j = true := fun j hj => okAt_yes (h j hj j hj).1 (h j hj j hj).2.1 (fun m hm => (h j hj m (by omega)).2.2 (by omega))
  have hel := (h i hi i hi).1
  have hey := (h i hi i hi).2.1
  have hh : headOk xs ys (xs.getD i 0) = true := by
    unfold headOk
    rw [hel]
    have a1 : decide (1 ≤ xs.length) = true := decide_eq_true (by omega)
    have a2 : decide (xs.length ≤ 10) = true := decide_eq_true hn
    have a3 : decide (ys.length = xs.length) = true := decide_eq_true hl
    rw [a1, a2, a3]; rfl
  obtain ⟨s1, s2, s3, s4⟩ := els_of hl hok
  rw [interp_yes hh hok, ← getD_map, line_at s3 s4 i (by simpa using hi) (by simp [hl]) (fun j hj hne e => ?_), getD_map]
  · have := el_bd hey; omega
  · rw [getD_map, getD_map] at e
    have hj2 : j < xs.length := by simpa using hj
    have h1 := el_bd (h i hi j hj2).1
    have h2 := el_bd hel
    exact (h i hi j hj2).2.2 hne (by omega)

theorem mulZ_comm (a b : Int) : mulZ a b = mulZ b a := by
  unfold mulZ
  by_cases h1 : el a = true
  · by_cases h2 : el b = true
    · obtain ⟨m, rfl, hm⟩ := el_nat h1
      obtain ⟨n, rfl, hn⟩ := el_nat h2
      simp only [h1, h2, Bool.and_self, if_true, Int.toNat_natCast]
      rw [mul_comm hm hn]
    · have h2' : el b = false := by simpa using h2
      simp [h1, h2']
  · have h1' : el a = false := by simpa using h1
    simp [h1']
theorem el_in {a : Int} (h0 : 0 ≤ a) (h1 : a ≤ 255) : el a = true := by simp [el]; omega
theorem mulInvZ {c : Int} (h0 : 1 ≤ c) (h1 : c ≤ 255) : mulZ c (invZ c) = 1 := by
  obtain ⟨m, rfl, hm⟩ := el_nat (el_in (by omega) h1)
  rw [invZ_nat hm, mulZ_nat hm (inv_lt hm), mul_inv hm (by omega)]; rfl
theorem mulDivZ {a b : Int} (h0 : 0 ≤ a) (h1 : a ≤ 255) (h2 : 1 ≤ b) (h3 : b ≤ 255) : mulZ (divZ a b) b = a := by
  obtain ⟨m, rfl, hm⟩ := el_nat (el_in h0 h1)
  obtain ⟨n, rfl, hn⟩ := el_nat (el_in (by omega) h3)
  rw [divZ_nat hm hn, mulZ_nat (mul_lt hm) hn, mul_assoc hm (inv_lt hn) hn, inv_mul hn (by omega), mul_one hm]
theorem mulXorZ {a b c : Int} (h0 : 0 ≤ a) (h1 : a ≤ 255) (h2 : 1 ≤ b) (h3 : b ≤ 255) (h4 : 0 ≤ c) (h5 : c ≤ 255) : mulZ b (bits .xor .i64 a c) = bits .xor .i64 (mulZ b a) (mulZ b c) := by
  obtain ⟨m, rfl, hm⟩ := el_nat (el_in h0 h1)
  obtain ⟨n, rfl, hn⟩ := el_nat (el_in (by omega) h3)
  obtain ⟨k, rfl, hk⟩ := el_nat (el_in h4 h5)
  rw [mulZ_nat hn hm, mulZ_nat hn hk, xorN hm hk, xorN (mul_lt hn) (mul_lt hn), mulZ_nat hn (xor8 hm hk), mul_xor]
end Go.Proofs.Ytkanhjafchiikaa.Gf
