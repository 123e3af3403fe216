/- Spread as a function of lists of numbers and of texts. -/
import Derived.Test.YtjgkekgieodhnaaImplCount
namespace Go.Proofs.Ytjgkekgieodhnaa.Gf
open Go.RowKit

def toB (l : List Nat) : ByteArray := ⟨(l.map UInt8.ofNat).toArray⟩
def nb (s : ByteArray) : List Nat := s.data.toList.map UInt8.toNat
theorem nb_len (s : ByteArray) : (nb s).length = s.size := by simp [nb]
theorem toB_size (l : List Nat) : (toB l).size = l.length := by unfold toB; show (Array.size _) = _; simp
theorem nb_els (s : ByteArray) : Els (nb s) := fun x hx => by
  obtain ⟨b, _, rfl⟩ := List.mem_map.1 hx; exact b.toNat_lt
theorem toB_nb (s : ByteArray) : toB (nb s) = s := by
  apply ByteArray.ext
  simp [toB, nb, Function.comp_def]
theorem nb_toB {l : List Nat} (h : Els l) : nb (toB l) = l := by
  unfold nb toB
  simp only [List.map_map]
  have : ∀ x ∈ l, (UInt8.toNat ∘ UInt8.ofNat) x = x := fun x hx => by
    have := h x hx
    simp; omega
  rw [List.map_congr_left this]; simp
theorem nb_at (s : ByteArray) (k : Nat) (h : k < s.size) : (nb s)[k]'(by rw [nb_len]; exact h) = (s[k]).toNat := by simp [nb]; rfl

def plen (need size : Nat) : Nat := (size + need - 1) / need
theorem plen_ge {need size : Nat} (h : 0 < need) : size ≤ need * plen need size := by
  unfold plen
  have := Nat.div_add_mod (size + need - 1) need
  have := Nat.mod_lt (size + need - 1) h
  omega
theorem plen_le (need size : Nat) : need * plen need size ≤ size + need - 1 := Nat.mul_div_le _ _
theorem plen_pos {need size : Nat} (h : 0 < need) (h2 : 0 < size) : 0 < plen need size := by
  unfold plen; exact Nat.div_pos (by omega) h
theorem plen_small {need size : Nat} (h : 0 < need) : plen need size ≤ size + need := by
  unfold plen; exact Nat.le_trans (Nat.div_le_self _ _) (by omega)
def pad (s : List Nat) (need : Nat) : List Nat := s ++ List.replicate (need * plen need s.length - s.length) 0
theorem pad_len {s : List Nat} {need : Nat} (h : 0 < need) : (pad s need).length = need * plen need s.length := by
  have := plen_ge (size := s.length) h
  simp [pad]; omega
def cutL (s : List Nat) (need i : Nat) : List Nat := ((pad s need).drop (i * plen need s.length)).take (plen need s.length)
theorem cut_room {need L i : Nat} (h : i < need) : i * L + L ≤ need * L := by
  have : (i + 1) * L ≤ need * L := Nat.mul_le_mul (by omega) (Nat.le_refl _)
  rw [Nat.add_mul] at this; omega
theorem cutL_len {s : List Nat} {need i : Nat} (h : i < need) : (cutL s need i).length = plen need s.length := by
  have := cut_room (L := plen need s.length) h
  have := pad_len (s := s) (need := need) (by omega)
  simp [cutL]; omega
theorem pad_els {s : List Nat} (h : Els s) (need : Nat) : Els (pad s need) := fun x hx => by
  rcases List.mem_append.1 hx with h1 | h1
  · exact h x h1
  · have := (List.mem_replicate.1 h1).2; omega
theorem cutL_els {s : List Nat} (h : Els s) (need i : Nat) : Els (cutL s need i) := fun x hx => pad_els h need x (List.mem_of_mem_drop (List.mem_of_mem_take hx))
def firsts (s : List Nat) (need : Nat) : List (List Nat) := (List.range need).map (cutL s need)
/-- the further piece of the number need + i -/
def rest1 (ps : List (List Nat)) (need L i : Nat) : List Nat := mixed (weight (List.range need) (need + i)) ps L
def rests (ps : List (List Nat)) (need L more : Nat) : List (List Nat) := (List.range more).map (rest1 ps need L)
def spreadL (s : List Nat) (need more : Nat) : List (List Nat) := firsts s need ++ rests (firsts s need) need (plen need s.length) more
theorem firsts_len (s : List Nat) (need : Nat) : (firsts s need).length = need := by simp [firsts]
theorem spreadL_len (s : List Nat) (need more : Nat) : (spreadL s need more).length = need + more := by simp [spreadL, firsts, rests]
theorem mixed_len (c : Nat → Nat) (ps : List (List Nat)) (L : Nat) : (mixed c ps L).length = L := by simp [mixed]
theorem mixed_els (c : Nat → Nat) (ps : List (List Nat)) (L : Nat) (h : ∀ i, c i < 256) : Els (mixed c ps L) := fun x hx => by
  obtain ⟨j, _, rfl⟩ := List.mem_map.1 hx; exact mixAt_lt _ _ _ _ h
theorem firsts_all (s : List Nat) (need : Nat) : ∀ p ∈ firsts s need, p.length = plen need s.length := fun p hp => by
  obtain ⟨i, hi, rfl⟩ := List.mem_map.1 hp; exact cutL_len (by simpa using hi)
theorem firsts_els {s : List Nat} (h : Els s) (need : Nat) : ∀ p ∈ firsts s need, Els p := fun p hp => by
  obtain ⟨i, hi, rfl⟩ := List.mem_map.1 hp; exact cutL_els h _ _
theorem firsts_succ (s : List Nat) (need k : Nat) : (List.range (k + 1)).map (cutL s need) = (List.range k).map (cutL s need) ++ [cutL s need k] := by simp [List.range_succ]
theorem rests_succ (ps : List (List Nat)) (need L k : Nat) : rests ps need L (k + 1) = rests ps need L k ++ [rest1 ps need L k] := by simp [rests, List.range_succ]
theorem range_els {n : Nat} (h : n ≤ 256) : Els (List.range n) := fun x hx => by
  have h2 : x < n := by simpa using hx
  omega
/-- may a group be so? -/
def fineB (need more size : Int) : Bool := isB need 1 6 && isB more 0 4 && isB size 1 100
def spreadO (t : ByteArray) (need more : Int) : List ByteArray := if fineB need more t.size then (spreadL (nb t) need.toNat more.toNat).map toB else []
theorem fine_parts {need more size : Int} (h : fineB need more size = true) : ∃ n m s : Nat, need = n ∧ more = m ∧ size = s ∧ 1 ≤ n ∧ n ≤ 6 ∧ m ≤ 4 ∧ 1 ≤ s ∧ s ≤ 100 := by
  simp only [fineB, isB, Bool.and_eq_true, decide_eq_true_eq] at h
  exact ⟨need.toNat, more.toNat, size.toNat, by omega, by omega, by omega, by omega, by omega, by omega, by omega, by omega⟩
end Go.Proofs.Ytjgkekgieodhnaa.Gf
