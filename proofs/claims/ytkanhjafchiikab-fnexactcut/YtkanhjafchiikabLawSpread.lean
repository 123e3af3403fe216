/- The law on Spread. -/
import Derived.Test.YtkanhjafchiikabImplSpread
import Derived.Test.YtkanhjafchiikabTextsB
namespace Go.Proofs.Ytkanhjafchiikab.Gf
open Go.RowKit Go.Proofs.Ytkanhjafchiikab.Mem Go.Proofs.Ytkanhjafchiikab.Harn Go.Proofs.Ytkanhjafchiikab.Disk Go.Proofs.Ytkanhjafchiikab.Mark

/-- where the texts of a list of the call's own lie -/
theorem OwnS.place {W : World} {base : Nat} {v : Value} {ls : List ByteArray} (h : OwnS W base v ls) : ∃ a cap g, v = .slice a ls.length cap ∧ (ls.length = 0 ∨ a = some ⟨g, 0, none⟩) ∧ StrsAt W g 0 ls ∧ (ls.length ≠ 0 → base ≤ g ∧ g < W.heap.size) := by
  obtain ⟨a, cap, rfl, _, hc⟩ := OwnV.cells h
  have hl : (ls.map Value.string).length = ls.length := by simp
  by_cases h0 : ls.length = 0
  · exact ⟨a, cap, 0, by rw [hl], .inl h0, fun j hj => by omega, fun h => absurd h0 h⟩
  · obtain ⟨g, rfl, _, _⟩ := hc 0 (by omega)
    refine ⟨_, cap, g, by rw [hl], .inr rfl, fun j hj => ?_, fun _ => OwnV.lt h g rfl⟩
    obtain ⟨g', hg, c, f⟩ := hc j (by omega)
    injection hg with hg
    injection hg with e _ _
    subst e
    rw [Nat.zero_add]
    exact ⟨by rw [c]; simp [hj], f⟩
theorem strs_opt {W : World} {a : Option Addr} {g c : Nat} {ls : List ByteArray} (ha : ls.length = 0 ∨ a = some ⟨g, 0, none⟩) (h : StrsAt W g 0 ls) : Strs W (.slice a ls.length c) ls := by
  rcases ha with h0 | rfl
  · exact ⟨a, c, rfl, fun j hj => by omega⟩
  · exact h.strs c
theorem strs_opt' {W : World} {a : Option Addr} {g c n : Nat} {ls : List ByteArray} (hn : ls.length = n) (ha : n = 0 ∨ a = some ⟨g, 0, none⟩) (h : StrsAt W g 0 ls) : Strs W (.slice a n c) ls := by
  subst hn; exact strs_opt ha h
theorem spreadO_len (t : ByteArray) (need more : Int) : (spreadO t need more).length ≤ 20 := by
  unfold spreadO
  split
  · rename_i h
    obtain ⟨n, m, s, rfl, rfl, _, _, g2, g3, _⟩ := fine_parts h
    simp [spreadL_len]; omega
  · simp

end Go.Proofs.Ytkanhjafchiikab.Gf
