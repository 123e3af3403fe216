/- Runs in order of one length, as plain lists. -/
import Derived.Test.YtkanhjafchiikaaSortPure
namespace Go.Proofs.Ytkanhjafchiikaa.Srt

/-- from a to b all runs of B are in order -/
def Runs (l : List E) (a b B : Nat) : Prop := ∀ k, a + k * B < b → Sorted l (a + k * B) (min (a + k * B + B) b)
theorem runs_none {l : List E} {a b B : Nat} (h : b ≤ a) : Runs l a b B := fun k hk => by omega
theorem runs_head {l : List E} {a b B : Nat} (h : Runs l a b B) (hab : a < b) : Sorted l a (min (a + B) b) := by
  have := h 0 (by omega)
  simpa using this
theorem runs_tail {l : List E} {a b B : Nat} (h : Runs l a b B) : Runs l (a + B) b B := fun k hk => by
  have e : a + B + k * B = a + (k + 1) * B := by rw [Nat.add_mul]; omega
  rw [e] at hk ⊢
  exact h (k + 1) hk
theorem runs_far {l l' : List E} {a b B c d : Nat} (h : Runs l a b B) (k : Step l l' c d) (hf : b ≤ c ∨ d ≤ a) : Runs l' a b B := fun j hj => by
  refine (h j hj).far k ?_
  rcases hf with hf | hf
  · left; omega
  · right; omega
theorem runs_snoc {l : List E} {a c B q : Nat} (h : Runs l 0 a B) (ha : a = q * B) (hs : Sorted l a c) (h1 : a ≤ c) (h2 : c ≤ a + B) : Runs l 0 c B := fun k hk => by
  rw [Nat.zero_add] at hk ⊢
  by_cases e : k < q
  · have h3 : (k + 1) * B ≤ q * B := Nat.mul_le_mul_right _ e
    rw [Nat.add_mul, Nat.one_mul, ← ha] at h3
    by_cases hB : B = 0
    · subst hB; exact Sorted.one (by omega)
    · have h4 := h k (by omega)
      rw [Nat.zero_add, show min (k * B + B) a = k * B + B by omega] at h4
      rw [show min (k * B + B) c = k * B + B by omega]
      exact h4
  · by_cases e2 : k = q
    · subst e2
      rw [← ha, show min (a + B) c = c by omega]
      exact hs
    · have h3 : (q + 1) * B ≤ k * B := Nat.mul_le_mul_right _ (by omega)
      rw [Nat.add_mul, Nat.one_mul, ← ha] at h3
      omega
theorem runs_all {l : List E} {n B : Nat} (h : Runs l 0 n B) (hn : n ≤ B) : Sorted l 0 n := by
  by_cases h0 : n = 0
  · subst h0; exact Sorted.one (by omega)
  · have := runs_head h (by omega)
    rwa [Nat.zero_add, show min B n = n by omega] at this
end Go.Proofs.Ytkanhjafchiikaa.Srt
