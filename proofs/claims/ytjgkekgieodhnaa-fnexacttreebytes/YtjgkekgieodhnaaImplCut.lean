/- What the program's cutting of a text answers, and its small helpers. -/
import Derived.Test.YtjgkekgieodhnaaSpecSpread2
namespace Go.Proofs.Ytjgkekgieodhnaa.Gf
open Go.RowKit Go.Proofs.Ytjgkekgieodhnaa.Mem Go.Proofs.Ytjgkekgieodhnaa.Harn

theorem fine_cases (need more size : Int) : (need < 1 ∧ fineB need more size = false) ∨ (¬ need < 1 ∧ 6 < need ∧ fineB need more size = false) ∨ (¬ need < 1 ∧ ¬ 6 < need ∧ more < 0 ∧ fineB need more size = false) ∨ (¬ need < 1 ∧ ¬ 6 < need ∧ ¬ more < 0 ∧ 4 < more ∧ fineB need more size = false) ∨ (¬ need < 1 ∧ ¬ 6 < need ∧ ¬ more < 0 ∧ ¬ 4 < more ∧ size < 1 ∧ fineB need more size = false) ∨ (¬ need < 1 ∧ ¬ 6 < need ∧ ¬ more < 0 ∧ ¬ 4 < more ∧ ¬ size < 1 ∧ 100 < size ∧ fineB need more size = false) ∨ (¬ need < 1 ∧ ¬ 6 < need ∧ ¬ more < 0 ∧ ¬ 4 < more ∧ ¬ size < 1 ∧ ¬ 100 < size ∧ fineB need more size = true) := by
  have h : (fineB need more size = true) ↔ (1 ≤ need ∧ need ≤ 6) ∧ (0 ≤ more ∧ more ≤ 4) ∧ (1 ≤ size ∧ size ≤ 100) := by
    simp only [fineB, isB, Bool.and_eq_true, decide_eq_true_eq, and_assoc]
  by_cases hf : fineB need more size = true
  · have h3 := h.1 hf
    rw [hf]
    clear hf h
    simp only [Bool.true_eq_false, and_true, and_false, false_or]
    omega
  · have hf' : fineB need more size = false := by simpa using hf
    have h2 : ¬ ((1 ≤ need ∧ need ≤ 6) ∧ (0 ≤ more ∧ more ≤ 4) ∧ (1 ≤ size ∧ size ≤ 100)) := fun x => hf (h.2 x)
    rw [hf']
    clear hf h hf'
    simp only [and_true, Bool.false_eq_true, and_false, or_false]
    omega

/-- Of n values the first k laid. -/
def slots (f : Nat → Value) (z : Value) (n k : Nat) : List Value := (List.range n).map fun j => if j < k then f j else z
theorem slots_start (f : Nat → Value) (z : Value) (n : Nat) : slots f z n 0 = List.replicate n z := by
  apply List.ext_getElem
  · simp [slots]
  · intro j h1 h2; simp [slots]
theorem slots_at (f : Nat → Value) (z : Value) (n k : Nat) (h : k < n) : (slots f z n k)[k]? = some z := by simp [slots, h]
theorem slots_in (f : Nat → Value) (z : Value) (n k j : Nat) (hj : j < k) (hk : k ≤ n) : (slots f z n k)[j]? = some (f j) := by
  have : j < n := by omega
  simp [slots, this, hj]
theorem slots_set (f : Nat → Value) (z : Value) (n k : Nat) : (slots f z n k).set k (f k) = slots f z n (k + 1) := by
  apply List.ext_getElem
  · simp [slots]
  · intro j h1 h2
    by_cases e : k = j
    · subst e; simp [slots]
    · rw [List.getElem_set_ne e]
      by_cases e2 : j < k
      · have : j < k + 1 := by omega
        simp [slots, e2, this]
      · have : ¬ j < k + 1 := by omega
        simp [slots, e2, this]

theorem infoU8s : (Try.prog.info? 81).map (fun i => (i.zero, i.size, i.bytes)) = some (some (.slice none 0 0), 1, 24) := by kernel_rfl
/-- a piece of a row of bytes -/
theorem slice_row (ty : TypeId) (hty : Try.prog.underlying ty = some (.slice 5)) (hsz : (Try.prog.info? 5).map (·.size) = some 1) (g a b n : Nat) (ha : a ≤ b) (hb : b ≤ n) (han : a < n) (i j : Int) (hi : i = a) (hj : j = b) (W : World) :
    (Instr.slice ty (.slice (some ⟨g, 0, none⟩) n n) (some (.int .i64 i)) (some (.int .i64 j)) none).run Try.prog W = .ok (.slice (some ⟨g, a, none⟩) (b - a) (n - a)) W := by
  subst hi hj
  obtain ⟨info, hi, hs⟩ := Option.map_eq_some_iff.1 hsz
  have hna : ¬ n = a := by omega
  simp [Instr.slice, Instr.sliceBounds, run_underlying hty, go_sem, ha, hb, hna, sizeOf, typeInfo, hi, hs]

/-- 'string(b)' of a piece that is not empty -/
theorem conv_nums {W : World} {v : Value} {l : List Nat} (h : NumsK .u8 W v l) (hel : Els l) (h0 : 0 < l.length) : (convert 81 9 v).run Try.prog W = .ok (.string (toB l)) W := by
  obtain ⟨a, cap, rfl, hc⟩ := h
  obtain ⟨b, o, rfl, _⟩ := hc 0 h0
  have hl : (l.map UInt8.ofNat).length = l.length := by simp
  have := run_convert_bytes_back W 81 9 5 ⟨b, o, none⟩ cap (l.map UInt8.ofNat) Join.under Join.under8 Join.underS (fun j hj => by
    have hj2 : j < l.length := by omega
    obtain ⟨b', o', hbo, c⟩ := hc j hj2
    injection hbo with hbo
    injection hbo with e1 e2 _
    subst e1 e2
    have e : (⟨b, o, none⟩ : Addr).add j = ⟨b, o + j, none⟩ := by unfold Addr.add; split <;> simp_all
    rw [e, c]
    have := hel.at hj2
    simp; omega)
  rw [hl] at this
  exact this

end Go.Proofs.Ytjgkekgieodhnaa.Gf
