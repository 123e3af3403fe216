/- What two texts have alike at their ends, and the steps from the one to the other: lists alone. -/
import Derived.Test.YtfpgobkedfhakaaHarnStep
namespace Go.Proofs.Ytfpgobkedfhakaa.Del
open Go.RowKit

/-- how many bytes both have alike at the beginning, from place k on -/
def preGo (a b : ByteArray) (k : Nat) : Nat := if h : k < a.size ∧ k < b.size then (if a[k]'h.1 = b[k]'h.2 then preGo a b (k + 1) else k) else k
termination_by a.size - k
theorem pre_hit {a b : ByteArray} {k : Nat} (h1 : k < a.size) (h2 : k < b.size) (h : a[k] = b[k]) : preGo a b k = preGo a b (k + 1) := by rw [preGo, dif_pos ⟨h1, h2⟩, if_pos h]
theorem pre_miss {a b : ByteArray} {k : Nat} (h1 : k < a.size) (h2 : k < b.size) (h : ¬ a[k] = b[k]) : preGo a b k = k := by rw [preGo, dif_pos ⟨h1, h2⟩, if_neg h]
theorem pre_end {a b : ByteArray} {k : Nat} (h : ¬ (k < a.size ∧ k < b.size)) : preGo a b k = k := by rw [preGo, dif_neg h]
theorem pre_le (a b : ByteArray) : ∀ n k, a.size - k = n → k ≤ a.size → k ≤ b.size → preGo a b k ≤ a.size ∧ preGo a b k ≤ b.size
  | 0, k, hn, h1, h2 => by rw [pre_end (by omega)]; omega
  | n + 1, k, hn, h1, h2 => by
    by_cases hb : k < b.size
    · have ha : k < a.size := by omega
      by_cases he : a[k] = b[k]
      · rw [pre_hit ha hb he]; exact pre_le a b n (k + 1) (by omega) (by omega) (by omega)
      · rw [pre_miss ha hb he]; omega
    · rw [pre_end (by omega)]; omega
/-- how many bytes both have alike at the end, behind place p -/
def sufGo (a b : ByteArray) (p k : Nat) : Nat := if h : k < a.size - p ∧ k < b.size - p then (if a[a.size - 1 - k]'(by omega) = b[b.size - 1 - k]'(by omega) then sufGo a b p (k + 1) else k) else k
termination_by a.size - p - k
theorem suf_hit {a b : ByteArray} {p k : Nat} (h1 : k < a.size - p) (h2 : k < b.size - p) (h : a[a.size - 1 - k]'(by omega) = b[b.size - 1 - k]'(by omega)) : sufGo a b p k = sufGo a b p (k + 1) := by rw [sufGo, dif_pos ⟨h1, h2⟩, if_pos h]
theorem suf_miss {a b : ByteArray} {p k : Nat} (h1 : k < a.size - p) (h2 : k < b.size - p) (h : ¬ a[a.size - 1 - k]'(by omega) = b[b.size - 1 - k]'(by omega)) : sufGo a b p k = k := by rw [sufGo, dif_pos ⟨h1, h2⟩, if_neg h]
theorem suf_end {a b : ByteArray} {p k : Nat} (h : ¬ (k < a.size - p ∧ k < b.size - p)) : sufGo a b p k = k := by rw [sufGo, dif_neg h]
theorem suf_le (a b : ByteArray) (p : Nat) : ∀ n k, a.size - p - k = n → k ≤ a.size - p → k ≤ b.size - p → sufGo a b p k ≤ a.size - p ∧ sufGo a b p k ≤ b.size - p
  | 0, k, hn, h1, h2 => by rw [suf_end (by omega)]; omega
  | n + 1, k, hn, h1, h2 => by
    by_cases hb : k < b.size - p
    · have ha : k < a.size - p := by omega
      by_cases he : a[a.size - 1 - k]'(by omega) = b[b.size - 1 - k]'(by omega)
      · rw [suf_hit ha hb he]; exact suf_le a b p n (k + 1) (by omega) (by omega) (by omega)
      · rw [suf_miss ha hb he]; omega
    · rw [suf_end (by omega)]; omega
theorem size_from (a : ByteArray) (p : Nat) : (a.extract p a.size).size = a.size - p := by simp
theorem get_from (a : ByteArray) (p i : Nat) (h : i < (a.extract p a.size).size) : (a.extract p a.size)[i] = a[p + i]'(by rw [size_from] at h; omega) := by simp [ByteArray.getElem_eq_getElem_data]
/-- the same, of the pieces behind p -/
theorem suf_from (a b : ByteArray) (p : Nat) : ∀ n k, a.size - p - k = n → sufGo (a.extract p a.size) (b.extract p b.size) 0 k = sufGo a b p k
  | 0, k, hn => by rw [suf_end (by rw [size_from]; omega), suf_end (by omega)]
  | n + 1, k, hn => by
    by_cases hb : k < b.size - p
    · have ha : k < a.size - p := by omega
      have ha2 : k < (a.extract p a.size).size - 0 := by rw [size_from]; omega
      have hb2 : k < (b.extract p b.size).size - 0 := by rw [size_from]; omega
      have e1 : (a.extract p a.size)[(a.extract p a.size).size - 1 - k]'(by omega) = a[a.size - 1 - k]'(by omega) := by
        rw [get_from]; congr 1; rw [size_from]; omega
      have e2 : (b.extract p b.size)[(b.extract p b.size).size - 1 - k]'(by omega) = b[b.size - 1 - k]'(by omega) := by
        rw [get_from]; congr 1; rw [size_from]; omega
      by_cases he : a[a.size - 1 - k]'(by omega) = b[b.size - 1 - k]'(by omega)
      · rw [suf_hit ha hb he, suf_hit ha2 hb2 (by rw [e1, e2]; exact he)]; exact suf_from a b p n (k + 1) (by omega)
      · rw [suf_miss ha hb he, suf_miss ha2 hb2 (by rw [e1, e2]; exact he)]
    · rw [suf_end (by rw [size_from, size_from]; omega), suf_end (by omega)]
def preN (a b : ByteArray) : Nat := preGo a b 0
def sufN (a b : ByteArray) : Nat := sufGo a b (preN a b) 0
theorem preN_le (a b : ByteArray) : preN a b ≤ a.size ∧ preN a b ≤ b.size := pre_le a b _ 0 rfl (by omega) (by omega)
theorem sufN_le (a b : ByteArray) : preN a b + sufN a b ≤ a.size ∧ preN a b + sufN a b ≤ b.size := by
  have h1 := preN_le a b
  have h2 := suf_le a b (preN a b) _ 0 rfl (by omega) (by omega)
  unfold sufN
  omega
/-- the steps from a to b, of which p bytes are alike ahead and z behind -/
def stepsL (a b : ByteArray) (p z : Nat) : List Pc :=
  (if 0 < p then [⟨0, (p : Nat), ByteArray.empty⟩] else []) ++ (if p < b.size - z then [⟨0, 0, b.extract p (b.size - z)⟩] else []) ++ (if 0 < z then [⟨((a.size - z : Nat) : Int), (z : Nat), ByteArray.empty⟩] else [])
def stepsN (a b : ByteArray) : List Pc := stepsL a b (preN a b) (sufN a b)
/-- what StepsOf tells -/
def stepsO (a b : ByteArray) : List Pc := if 80 < a.size ∨ 80 < b.size then [] else stepsN a b
theorem stepsN_len (a b : ByteArray) : (stepsN a b).length ≤ 3 := by
  unfold stepsN stepsL
  simp only [List.length_append]
  split <;> split <;> split <;> simp
theorem stepsO_len (a b : ByteArray) : (stepsO a b).length ≤ 3 := by
  unfold stepsO; split
  · simp
  · exact stepsN_len a b
end Go.Proofs.Ytfpgobkedfhakaa.Del
