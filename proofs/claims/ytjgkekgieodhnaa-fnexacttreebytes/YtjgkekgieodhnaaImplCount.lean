/- What the program's closure of weights answers, and sums of pieces as lists. -/
import Derived.Test.YtjgkekgieodhnaaImplLine
namespace Go.Proofs.Ytjgkekgieodhnaa.Gf
open Go.RowKit Go.Proofs.Ytjgkekgieodhnaa.Mem

/-- What the closure of weights holds: the places xs, and a place t. -/
def Clos (w : World) (bx bt : Nat) (xs : List Nat) (t : Nat) : Prop := ∃ vx, w.cell? ⟨bx, 0, none⟩ = some vx ∧ w.cell? ⟨bt, 0, none⟩ = some (.int .i64 (t : Nat)) ∧ NumsK .i64 w vx xs
theorem Clos.below {w W : World} {bx bt : Nat} {xs : List Nat} {t : Nat} (h : Clos w bx bt xs t) (hb : Below w.heap.size w W) : Clos W bx bt xs t := by
  obtain ⟨vx, h1, h2, h3⟩ := h
  exact ⟨vx, (hb.cell (World.block_lt_of_cell? w _ h1)).trans h1, (hb.cell (World.block_lt_of_cell? w _ h2)).trans h2, h3.below hb⟩

/-- The value v reads as the lists ps of numbers of kind k. -/
def Lists (k : IntKind) (W : World) (v : Value) (ps : List (List Nat)) : Prop :=
  ∃ a cap, v = .slice a ps.length cap ∧ ∀ j (h : j < ps.length), ∃ b o u, a = some ⟨b, o, none⟩ ∧ W.cell? ⟨b, o + j, none⟩ = some u ∧ NumsK k W u ps[j]
theorem Lists.below {k : IntKind} {W W' : World} {v : Value} {l : List (List Nat)} (h : Lists k W v l) (hb : Below W.heap.size W W') : Lists k W' v l := by
  obtain ⟨a, cap, hv, hc⟩ := h
  refine ⟨a, cap, hv, fun j hj => ?_⟩
  obtain ⟨b, o, u, ha, hcell, hn⟩ := hc j hj
  exact ⟨b, o, u, ha, (hb.cell (World.block_lt_of_cell? W _ hcell)).trans hcell, hn.below hb⟩

/-- the sum of the pieces at place j, each as often as c says; the first k of them -/
def mixAt (c : Nat → Nat) (ps : List (List Nat)) (j k : Nat) : Nat := sumTo c (fun i => (ps.getD i []).getD j 0) k
/-- the sum in the midst: at the first m places one piece more -/
def mixRow (c : Nat → Nat) (ps : List (List Nat)) (L i m : Nat) : List Nat := (List.range L).map fun j => if j < m then mixAt c ps j (i + 1) else mixAt c ps j i
def mixed (c : Nat → Nat) (ps : List (List Nat)) (L : Nat) : List Nat := (List.range L).map fun j => mixAt c ps j ps.length
theorem length_mixRow (c : Nat → Nat) (ps : List (List Nat)) (L i m : Nat) : (mixRow c ps L i m).length = L := by simp [mixRow]
theorem mixRow_start (c : Nat → Nat) (ps : List (List Nat)) (L : Nat) (k : IntKind) : ncells k (mixRow c ps L 0 0) = List.replicate L (.int k 0) := by
  apply List.ext_getElem
  · simp [ncells, mixRow]
  · intro j h1 h2; simp [ncells, mixRow, mixAt, sumTo]
theorem mixRow_next (c : Nat → Nat) (ps : List (List Nat)) (L i : Nat) : mixRow c ps L i L = mixRow c ps L (i + 1) 0 := by
  unfold mixRow
  apply List.map_congr_left
  intro j hj
  have : j < L := by simpa using hj
  simp [this]
theorem mixRow_end (c : Nat → Nat) (ps : List (List Nat)) (L : Nat) : mixRow c ps L ps.length 0 = mixed c ps L := by
  unfold mixRow mixed
  apply List.map_congr_left
  intro j hj
  simp
theorem mixRow_at (c : Nat → Nat) (ps : List (List Nat)) (L i m : Nat) (k : IntKind) (hm : m < L) : (ncells k (mixRow c ps L i m))[m]? = some (.int k (mixAt c ps m i : Nat)) := by
  simp [ncells, mixRow, hm]
theorem mixRow_set (c : Nat → Nat) (ps : List (List Nat)) (L i m : Nat) (k : IntKind) : (ncells k (mixRow c ps L i m)).set m (.int k (mixAt c ps m (i + 1) : Nat)) = ncells k (mixRow c ps L i (m + 1)) := by
  apply List.ext_getElem
  · simp [ncells, mixRow]
  · intro j h1 h2
    by_cases e : m = j
    · subst e; simp [ncells, mixRow]
    · rw [List.getElem_set_ne e]
      by_cases e2 : j < m
      · have : j < m + 1 := by omega
        simp [ncells, mixRow, e2, this]
      · have : ¬ j < m + 1 := by omega
        simp [ncells, mixRow, e2, this]
theorem mixAt_succ (c : Nat → Nat) (ps : List (List Nat)) (m i : Nat) (hi : i < ps.length) (hm : m < ps[i].length) : mixAt c ps m (i + 1) = mixAt c ps m i ^^^ mul (c i) ps[i][m] := by
  unfold mixAt
  rw [sumTo]
  simp [List.getD, hi, hm]
theorem mixAt_lt (c : Nat → Nat) (ps : List (List Nat)) (j k : Nat) (hc : ∀ i, c i < 256) : mixAt c ps j k < 256 := sumTo_lt _ _ hc _
end Go.Proofs.Ytjgkekgieodhnaa.Gf
