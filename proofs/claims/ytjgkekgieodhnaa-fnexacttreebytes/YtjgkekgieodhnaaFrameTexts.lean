/- The bytes of a frame as lists of texts; texts put together. -/
import Derived.Test.YtjgkekgieodhnaaFramePure
import Derived.Test.YtjgkekgieodhnaaPutText
import Derived.Test.YtjgkekgieodhnaaSeal
namespace Go.Proofs.Ytjgkekgieodhnaa.Frm
open Go.RowKit Go.Proofs.Ytjgkekgieodhnaa.Gf

def Fr.nums (f : Fr) : List Int := [f.o, f.g, f.gs, f.n, f.m, f.s, f.x]
/-- texts put together -/
def catB : List ByteArray → ByteArray
  | [] => ByteArray.empty
  | t :: l => t ++ catB l
theorem catB_snoc (l : List ByteArray) (t : ByteArray) : catB (l ++ [t]) = catB l ++ t := by
  induction l with
  | nil => apply ByteArray.ext; simp [catB]
  | cons a l ih => simp only [List.cons_append, catB, ih]; apply ByteArray.ext; simp
def catS : List ByteArray → Nat
  | [] => 0
  | t :: l => t.size + catS l
theorem catB_size (l : List ByteArray) : (catB l).size = catS l := by
  induction l with
  | nil => rfl
  | cons a l ih => simp [catB, catS, ByteArray.size_append, ih]
theorem catS_take (l : List ByteArray) (k : Nat) : catS (l.take k) ≤ catS l := by
  induction l generalizing k with
  | nil => simp [catS]
  | cons a l ih =>
    cases k with
    | zero => simp [catS]
    | succ k => have := ih k; simp [catS]; omega
theorem catS_app (l l' : List ByteArray) : catS (l ++ l') = catS l + catS l' := by
  induction l with
  | nil => simp [catS]
  | cons a l ih => simp [catS, ih]; omega
/-- the texts of which a frame's bytes are put together -/
def Fr.texts (f : Fr) : List ByteArray := f.nums.map PutNum.numB ++ [PutText.textB f.t]
def Fr.bytes (f : Fr) : ByteArray := Seal.sealB (catB f.texts)
def Fr.out (f : Fr) : ByteArray := if f.right then f.bytes else ByteArray.empty
theorem numB_size (n : Int) : 1 ≤ (PutNum.numB n).size ∧ (PutNum.numB n).size ≤ 10 := by
  obtain ⟨h1, h2⟩ := PutNum.length_numL n
  have : (PutNum.numB n).size = (PutNum.numL n).length := rfl
  omega
/-- what is known of a right frame -/
theorem Fr.bounds {f : Fr} (h : f.right = true) : (1 ≤ f.o ∧ f.o ≤ 1000000) ∧ (0 ≤ f.g ∧ f.g ≤ 8) ∧ (1 ≤ f.gs ∧ f.gs ≤ 9) ∧ (1 ≤ f.n ∧ f.n ≤ 6) ∧ (0 ≤ f.m ∧ f.m ≤ 4) ∧ (1 ≤ f.s ∧ f.s ≤ 100) ∧ (0 ≤ f.x ∧ f.x ≤ 9) ∧ f.t.size ≤ 106 := by
  unfold Fr.right at h
  simp only [Bool.and_eq_true, decide_eq_true_eq] at h
  obtain ⟨⟨⟨⟨⟨h1, h2⟩, h3⟩, h4⟩, h5⟩, h6⟩ := h
  obtain ⟨n', m', s', e1, e2, e3, q1, q2, q3, q4, q5⟩ := fine_parts h4
  have a1 := isB_iff.1 h1
  have a2 := isB_iff.1 h2
  have a3 := isB_iff.1 h3
  have a5 := isB_iff.1 h5
  have a6 : f.t.size = plen n' s' := by rw [h6, e1, e3]; simp
  have a7 := plen_small (need := n') (size := s') (by omega)
  refine ⟨a1, ⟨by omega, by omega⟩, a2, ⟨by omega, by omega⟩, ⟨by omega, by omega⟩, ⟨by omega, by omega⟩, ⟨by omega, by omega⟩, by omega⟩
theorem Fr.texts_size {f : Fr} (h : f.t.size ≤ 1000) : catS f.texts ≤ 1080 := by
  have h0 := (numB_size f.o).2
  have h1 := (numB_size f.g).2
  have h2 := (numB_size f.gs).2
  have h3 := (numB_size f.n).2
  have h4 := (numB_size f.m).2
  have h5 := (numB_size f.s).2
  have h6 := (numB_size f.x).2
  have h7 := (numB_size (f.t.size : Nat)).2
  simp only [Fr.texts, Fr.nums, List.map_cons, List.map_nil, List.cons_append, List.nil_append, catS, PutText.textB, ByteArray.size_append]
  omega
end Go.Proofs.Ytjgkekgieodhnaa.Frm
