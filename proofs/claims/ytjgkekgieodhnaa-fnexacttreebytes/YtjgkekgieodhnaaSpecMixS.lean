/- What the model's sum of texts answers. -/
import Derived.Test.YtjgkekgieodhnaaSpreadPure
import Derived.Test.YtjgkekgieodhnaaOwnVals
import Derived.Test.YtjgkekgieodhnaaImplMixB
namespace Go.Proofs.Ytjgkekgieodhnaa.Gf
open Go.RowKit Go.Proofs.Ytjgkekgieodhnaa.Mem Go.Proofs.Ytjgkekgieodhnaa.Harn

theorem ret_strS {a b : ByteArray} (h : a = b) : Ending.returned (.string a) = .returned (.string b) := by rw [h]
/-- a row of L sums, of which the first k are reckoned -/
def sumRow (c : Nat → Nat) (ps : List (List Nat)) (L k : Nat) : List Nat := (List.range L).map fun j => if j < k then mixAt c ps j ps.length else 0
theorem sumRow_start (c : Nat → Nat) (ps : List (List Nat)) (L : Nat) : ncells .u8 (sumRow c ps L 0) = List.replicate L (.int .u8 0) := by
  apply List.ext_getElem
  · simp [ncells, sumRow]
  · intro j h1 h2; simp [ncells, sumRow]
theorem sumRow_end (c : Nat → Nat) (ps : List (List Nat)) (L : Nat) : sumRow c ps L L = mixed c ps L := by
  unfold sumRow mixed
  apply List.map_congr_left
  intro j hj
  have : j < L := by simpa using hj
  simp [this]
theorem sumRow_at (c : Nat → Nat) (ps : List (List Nat)) (L k : Nat) (h : k < L) : (ncells .u8 (sumRow c ps L k))[k]? = some (.int .u8 0) := by
  simp [ncells, sumRow, h]
theorem sumRow_set (c : Nat → Nat) (ps : List (List Nat)) (L k : Nat) : (ncells .u8 (sumRow c ps L k)).set k (.int .u8 (mixAt c ps k ps.length : Nat)) = ncells .u8 (sumRow c ps L (k + 1)) := by
  apply List.ext_getElem
  · simp [ncells, sumRow]
  · intro j h1 h2
    by_cases e : k = j
    · subst e; simp [ncells, sumRow]
    · rw [List.getElem_set_ne e]
      by_cases e2 : j < k
      · have : j < k + 1 := by omega
        simp [ncells, sumRow, e2, this]
      · have : ¬ j < k + 1 := by omega
        simp [ncells, sumRow, e2, this]
theorem ncells_u8 (l : List Nat) (h : Els l) : ncells .u8 l = Lib.byteCells (l.map UInt8.ofNat) := by
  unfold ncells Lib.byteCells
  rw [List.map_map]
  apply List.map_congr_left
  intro x hx
  have := h x hx
  simp; omega
theorem mixAt_str (c : Nat → Nat) (ls : List ByteArray) (k i : Nat) (hi : i < ls.length) (hk : k < ls[i].size) : mixAt c (ls.map nb) k (i + 1) = mixAt c (ls.map nb) k i ^^^ mul (c i) (ls[i][k]).toNat := by
  rw [mixAt_succ _ _ _ _ (by simpa using hi) (by simpa [nb_len] using hk)]
  simp only [List.getElem_map, nb_at _ _ hk]

end Go.Proofs.Ytjgkekgieodhnaa.Gf
