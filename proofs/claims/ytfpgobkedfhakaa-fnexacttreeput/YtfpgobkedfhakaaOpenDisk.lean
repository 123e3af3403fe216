/- A disk that came in, opened: its sectors and its pending writes. -/
import Derived.Test.YtfpgobkedfhakaaHarnPend2
import Derived.ProofKit
import Derived.OpenShut
import Derived.SliceStrings
import Derived.Deep.SlicePairs
import Derived.Lib.SmallJoins
namespace Go.Proofs.Ytfpgobkedfhakaa.Harn
open Go.ChangeShapes Go.WideShapes Go.ChangeAt Go.RowKit Go.Deep
variable {H : Type} {enc : TypeId × Value → H}

theorem at_none {W : World} {a : Addr} {v : Value} (h : W.cell? (a.add 0) = some v) : a = ⟨a.block, a.off, none⟩ ∧ ∀ j, a.add j = ⟨a.block, a.off + j, none⟩ := by
  have hs : a.spot = none := by simpa [Addr.add] using World.cell?_spot h
  obtain ⟨b, o, s⟩ := a
  simp only at hs
  subst hs
  refine ⟨rfl, fun j => ?_⟩
  unfold Addr.add
  split <;> simp_all

theorem open_strs_at {P : Program} {t e : TypeId} {W : World} {sp : Nat → Bool} {fuel : Nat} {v : Value} {x : DataW H × List MemPlace} (ht : P.underlying t = some (.slice e)) (he : P.underlying e = some .string) (hc : P.cellsOf e = 1)
    (h : DataW.trod enc P W 0 sp true fuel t [v] = some x) : ∃ l, Strs W v l ∧ l.length ≤ maxLen ∧ ∀ t ∈ l, t.size ≤ maxLen := by
  rcases open_strings ht he hc h with ⟨hcs, _⟩ | ⟨a, len, cap, ss, hcs, _, hl, hm, hz, _, hcell, hsz⟩
  · simp at hcs
    exact ⟨[], ⟨none, 0, hcs, fun j hj => by simp at hj⟩, by simp, by simp⟩
  · simp at hcs
    have hls : len ≤ ss.length := by rw [hz]; split <;> omega
    have hlt : (ss.take len).length = len := by simp; omega
    refine ⟨ss.take len, ⟨some a, cap, by rw [hlt]; exact hcs, fun j hj => ?_⟩, by omega, fun t ht => hsz t (List.mem_of_mem_take ht)⟩
    have hj2 : j < len := by omega
    have hcj := hcell j (by omega)
    obtain ⟨e1, e2⟩ := at_none (hcell 0 (by omega))
    refine ⟨a.block, a.off, by rw [← e1], ?_⟩
    rw [← e2 j, hcj]
    simp [List.getD, List.getElem?_eq_getElem (show j < ss.length by omega)]

def strV : Value → ByteArray | .string s => s | _ => ByteArray.empty

theorem open_pends_at {P : Program} {t e : TypeId} {f0 f1 : Field} {W : World} {sp : Nat → Bool} {fuel : Nat} {v : Value} {x : DataW H × List MemPlace} (ht : P.underlying t = some (.slice e)) (he : P.underlying e = some (.struct #[f0, f1]))
    (ce : P.cellsOf e = 2) (o0 : f0.offset = 0) (o1 : f1.offset = 1) (c0 : P.cellsOf f0.type = 1) (c1 : P.cellsOf f1.type = 1) (u0 : P.underlying f0.type = some (.int .i64)) (u1 : P.underlying f1.type = some .string)
    (h : DataW.trod enc P W 0 sp true fuel t [v] = some x) : ∃ l, Pends W v l ∧ l.length ≤ maxLen ∧ ∀ y ∈ l, y.2.size ≤ maxLen ∧ -9223372036854775808 ≤ y.1 ∧ y.1 ≤ 9223372036854775807 := by
  rcases open_slice_pairs ht he ce o0 o1 c0 c1 h with ⟨hcs, _⟩ | ⟨a, len, cap, m, n, V0, V1, D0, D1, P0, P1, hcs, _, hl, hm, hmm, _, hx⟩
  · simp at hcs
    exact ⟨[], ⟨none, 0, hcs, fun j hj => by simp at hj⟩, by simp, by simp⟩
  · simp at hcs
    have hlm : len ≤ m := by rw [hmm]; split <;> omega
    have each : ∀ i, i < len → ∃ k s, V0 i = .int .i64 k ∧ V1 i = .string s ∧ s.size ≤ maxLen ∧ (Lit.int .i64 k).wf = true := by
      intro i hi
      obtain ⟨_, _, h3, h4⟩ := hx i (by omega)
      obtain ⟨k, e1, _, hw⟩ := DataW.trod_int u0 h3
      obtain ⟨s, e2, _, hs⟩ := DataW.trod_string u1 h4
      simp at e1 e2
      exact ⟨k, s, e1, e2, hs, hw⟩
    refine ⟨(List.range len).map fun i => (intOf (V0 i), strV (V1 i)), ⟨some a, cap, by simpa using hcs, fun j hj => ?_⟩, by simp; omega, fun y hy => ?_⟩
    · have hj2 : j < len := by simpa using hj
      obtain ⟨h1, h2, _, _⟩ := hx j (by omega)
      obtain ⟨k, s, e1, e2, _, _⟩ := each j hj2
      obtain ⟨a1, a2⟩ := at_none (by have := (hx 0 (by omega)).1; simpa using this)
      refine ⟨a.block, a.off, by rw [← a1], ?_, ?_⟩
      · rw [← a2, h1]; simp [e1, intOf]
      · rw [Nat.add_assoc, ← a2, h2]; simp [e2, strV]
    · simp only [List.mem_map, List.mem_range] at hy
      obtain ⟨i, hi, rfl⟩ := hy
      obtain ⟨k, s, e1, e2, hs, hw⟩ := each i hi
      have hb := bounds_i64 hw
      exact ⟨by simp [e2, strV, hs], by simp [e1, intOf]; exact hb.1, by simp [e1, intOf]; exact hb.2⟩

end Go.Proofs.Ytfpgobkedfhakaa.Harn
