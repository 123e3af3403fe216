/- What Interp asks and answers, as a function of lists of numbers. -/
import Derived.Test.YtjgkekgieodhnaaSpecWeights
namespace Go.Proofs.Ytjgkekgieodhnaa.Gf
open Go.RowKit Go.Proofs.Ytjgkekgieodhnaa.Mem

def okAt (xs ys : List Int) (i : Nat) : Bool := el (xs.getD i 0) && el (ys.getD i 0) && (List.range i).all fun j => decide (xs.getD j 0 ≠ xs.getD i 0)
def okAll (xs ys : List Int) : Bool := (List.range xs.length).all (okAt xs ys)
def headOk (xs ys : List Int) (t : Int) : Bool := decide (1 ≤ xs.length) && decide (xs.length ≤ 10) && decide (ys.length = xs.length) && el t
def lineOk (xs ys : List Int) (t : Int) : Bool := headOk xs ys t && okAll xs ys
def interpZ (xs ys : List Int) (t : Int) : Int := if lineOk xs ys t then (line (xs.map Int.toNat) (ys.map Int.toNat) t.toNat : Nat) else 0

theorem getZ {xs : List Int} {j : Nat} (h : j < xs.length) : xs.getD j 0 = xs[j] := by simp [List.getD, h]
theorem okAt_no1 {xs ys : List Int} {i : Nat} (h : el (xs.getD i 0) = false) : okAt xs ys i = false := by unfold okAt; rw [h]; rfl
theorem okAt_no2 {xs ys : List Int} {i : Nat} (h : el (ys.getD i 0) = false) : okAt xs ys i = false := by unfold okAt; rw [h, Bool.and_false]; rfl
theorem okAt_no3 {xs ys : List Int} {i j : Nat} (hj : j < i) (h : xs.getD j 0 = xs.getD i 0) : okAt xs ys i = false := by
  have : ((List.range i).all fun j => decide (xs.getD j 0 ≠ xs.getD i 0)) = false := by
    rw [List.all_eq_false]
    exact ⟨j, by simpa using hj, by rw [h]; simp⟩
  unfold okAt; rw [this]; simp
theorem okAt_yes {xs ys : List Int} {i : Nat} (h1 : el (xs.getD i 0) = true) (h2 : el (ys.getD i 0) = true) (h : ∀ j, j < i → xs.getD j 0 ≠ xs.getD i 0) : okAt xs ys i = true := by
  unfold okAt
  rw [h1, h2, Bool.and_self, Bool.true_and, List.all_eq_true]
  intro j hj
  simpa using h j (by simpa using hj)
theorem okAll_no {xs ys : List Int} {i : Nat} (hi : i < xs.length) (h : okAt xs ys i = false) : okAll xs ys = false := by
  unfold okAll
  rw [List.all_eq_false]
  exact ⟨i, by simpa using hi, by simp [h]⟩
theorem okAll_yes {xs ys : List Int} (h : ∀ i, i < xs.length → okAt xs ys i = true) : okAll xs ys = true := by
  unfold okAll
  rw [List.all_eq_true]
  intro i hi
  exact h i (by simpa using hi)
theorem okAt_el1 {xs ys : List Int} {i : Nat} (h : okAt xs ys i = true) : el (xs.getD i 0) = true := by unfold okAt at h; rw [Bool.and_eq_true, Bool.and_eq_true] at h; exact h.1.1
theorem okAt_el2 {xs ys : List Int} {i : Nat} (h : okAt xs ys i = true) : el (ys.getD i 0) = true := by unfold okAt at h; rw [Bool.and_eq_true, Bool.and_eq_true] at h; exact h.1.2
theorem okAt_ne {xs ys : List Int} {i : Nat} (h : okAt xs ys i = true) (j : Nat) (hj : j < i) : xs.getD j 0 ≠ xs.getD i 0 := by
  unfold okAt at h
  rw [Bool.and_eq_true, List.all_eq_true] at h
  have := h.2 j (by simpa using hj)
  simpa using this
theorem okAll_at {xs ys : List Int} (h : okAll xs ys = true) (i : Nat) (hi : i < xs.length) : okAt xs ys i = true := by
  unfold okAll at h
  rw [List.all_eq_true] at h
  exact h i (by simpa using hi)
theorem interp_no {xs ys : List Int} {t : Int} (h : lineOk xs ys t = false) : interpZ xs ys t = 0 := by unfold interpZ; rw [h]; rfl
theorem interp_no' {xs ys : List Int} {t : Int} {i : Nat} (hi : i < xs.length) (h : okAt xs ys i = false) : interpZ xs ys t = 0 := by
  apply interp_no; unfold lineOk; rw [okAll_no hi h]; simp
theorem interp_yes {xs ys : List Int} {t : Int} (hh : headOk xs ys t = true) (h : ∀ i, i < xs.length → okAt xs ys i = true) : interpZ xs ys t = (line (xs.map Int.toNat) (ys.map Int.toNat) t.toNat : Nat) := by
  unfold interpZ; rw [if_pos]; unfold lineOk; rw [hh, okAll_yes h]; rfl
theorem el_bd {a : Int} (h : el a = true) : 0 ≤ a ∧ a ≤ 255 := by simpa [el] using h
theorem els_of {xs ys : List Int} (hl : ys.length = xs.length) (h : ∀ i, i < xs.length → okAt xs ys i = true) : (∀ x ∈ xs, 0 ≤ x) ∧ (∀ x ∈ ys, 0 ≤ x) ∧ Els (xs.map Int.toNat) ∧ Els (ys.map Int.toNat) := by
  have h1 : ∀ x ∈ xs, 0 ≤ x ∧ x ≤ 255 := fun x hx => by
    obtain ⟨i, hi, rfl⟩ := List.getElem_of_mem hx
    have := el_bd (okAt_el1 (h i hi)); rwa [getZ hi] at this
  have h2 : ∀ x ∈ ys, 0 ≤ x ∧ x ≤ 255 := fun x hx => by
    obtain ⟨i, hi, rfl⟩ := List.getElem_of_mem hx
    have := el_bd (okAt_el2 (h i (by omega))); rwa [getZ hi] at this
  refine ⟨fun x hx => (h1 x hx).1, fun x hx => (h2 x hx).1, fun x hx => ?_, fun x hx => ?_⟩
  · obtain ⟨y, hy, rfl⟩ := List.mem_map.1 hx; have := h1 y hy; omega
  · obtain ⟨y, hy, rfl⟩ := List.mem_map.1 hx; have := h2 y hy; omega
theorem headOk_parts {xs ys : List Int} {t : Int} (h : headOk xs ys t = true) : 1 ≤ xs.length ∧ xs.length ≤ 10 ∧ ys.length = xs.length ∧ el t = true := by
  unfold headOk at h; simp only [Bool.and_eq_true, decide_eq_true_eq] at h; exact ⟨h.1.1.1, h.1.1.2, h.1.2, h.2⟩
theorem headOk_not {xs ys : List Int} {t : Int} (h : headOk xs ys t = false) : xs.length < 1 ∨ (¬ xs.length < 1 ∧ 10 < xs.length) ∨ (¬ xs.length < 1 ∧ ¬ 10 < xs.length ∧ ¬ ys.length = xs.length) ∨ (¬ xs.length < 1 ∧ ¬ 10 < xs.length ∧ ys.length = xs.length ∧ el t = false) := by
  by_cases h1 : xs.length < 1
  · exact .inl h1
  · by_cases h2 : 10 < xs.length
    · exact .inr (.inl ⟨h1, h2⟩)
    · by_cases h3 : ys.length = xs.length
      · refine .inr (.inr (.inr ⟨h1, h2, h3, ?_⟩))
        have a1 : decide (1 ≤ xs.length) = true := decide_eq_true (by omega)
        have a2 : decide (xs.length ≤ 10) = true := decide_eq_true (by omega)
        have a3 : decide (ys.length = xs.length) = true := decide_eq_true h3
        unfold headOk at h
        rw [a1, a2, a3] at h; simpa using h
      · exact .inr (.inr (.inl ⟨h1, h2, h3⟩))
theorem interp_head {xs ys : List Int} {t : Int} (h : headOk xs ys t = false) : interpZ xs ys t = 0 := by
  apply interp_no; unfold lineOk; rw [h]; rfl
theorem sumTo_map (xs ys : List Int) (t : Nat) (k : Nat) (hk : k < ys.length) (y : Nat) (hy : ys[k] = (y : Nat)) :
    sumTo (weight (xs.map Int.toNat) t) (fun i => (ys.map Int.toNat).getD i 0) (k + 1) = sumTo (weight (xs.map Int.toNat) t) (fun i => (ys.map Int.toNat).getD i 0) k ^^^ mul (weight (xs.map Int.toNat) t k) y := by
  rw [sumTo]
  have : (ys.map Int.toNat).getD k 0 = y := by simp [List.getD, hk, hy]
  rw [this]
end Go.Proofs.Ytjgkekgieodhnaa.Gf
