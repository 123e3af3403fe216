/- What the model's Spread answers. -/
import Derived.Test.YtjgkekgieodhnaaSpecMixS
namespace Go.Proofs.Ytjgkekgieodhnaa.Gf
open Go.RowKit Go.Proofs.Ytjgkekgieodhnaa.Mem Go.Proofs.Ytjgkekgieodhnaa.Harn

theorem ownS_of_app {W : World} {base g cap n : Nat} {ls : List ByteArray} (h : W.ownsRow base 9 1 (.slice (some ⟨g, 0, none⟩) n cap) n (ls.map Value.string)) (hn : n = ls.length) : OwnS W base (.slice (some ⟨g, 0, none⟩) n cap) ls := by
  subst hn
  unfold OwnS OwnV
  simpa using h
/-- 'append([]string{}, l...)' of at least one text -/
theorem copy_strs (ty : TypeId) (g0 : Nat) (v : Value) (ls : List ByteArray) (W : World) (h : Strs W v ls) (h0 : 0 < ls.length) (hn : ls.length ≤ 1100000) :
    ∃ g cap W1, (Builtin.append_ #[50, 50] ty #[.slice (some ⟨g0, 0, none⟩) 0 0, v]).run Try.prog W = .ok (.slice (some ⟨g, 0, none⟩) ls.length cap) W1 ∧ OwnS W1 W.heap.size (.slice (some ⟨g, 0, none⟩) ls.length cap) ls ∧ Below W.heap.size W W1 := by
  obtain ⟨a, c, rfl, hc⟩ := h
  obtain ⟨b, o, rfl, _⟩ := hc 0 (by omega)
  obtain ⟨g, cap, W1, hr, h1, h2, h3, h4, h5, h6⟩ := app_new (P := Try.prog) 50 ty 9 (.string ByteArray.empty) 1 16 underStrs infoStr rfl (by omega) ⟨g0, 0, none⟩ ⟨b, o, none⟩ ls.length c (ls.map Value.string) W (by simp) (fun j u hu => by
    rw [List.getElem?_map] at hu
    cases e : ls[j]? with
    | none => rw [e] at hu; cases hu
    | some t =>
      rw [e] at hu
      obtain ⟨hj, ht⟩ := List.getElem?_eq_some_iff.1 e
      obtain ⟨b', o', hbo, hcell⟩ := hc j hj
      injection hbo with hbo
      injection hbo with e1 e2 _
      subst e1 e2
      have hadd : (⟨b, o, none⟩ : Addr).add j = ⟨b, o + j, none⟩ := by unfold Addr.add; split <;> simp_all
      rw [hadd, hcell, ht]
      simpa using hu) (by omega) (by unfold maxLen; omega) (by omega)
  exact ⟨g, cap, W1, hr, ownS_of_app h6 rfl, h3⟩

/-- the further pieces of texts, as texts -/
def restS (ls : List ByteArray) (need L k : Nat) : List ByteArray := ls ++ (rests (ls.map nb) need L k).map toB
theorem restS_zero (ls : List ByteArray) (need L : Nat) : restS ls need L 0 = ls := by simp [restS, rests]
theorem restS_succ (ls : List ByteArray) (need L k : Nat) : restS ls need L (k + 1) = restS ls need L k ++ [toB (rest1 (ls.map nb) need L k)] := by simp [restS, rests_succ]
theorem restS_len (ls : List ByteArray) (need L k : Nat) : (restS ls need L k).length = ls.length + k := by simp [restS, rests]

end Go.Proofs.Ytjgkekgieodhnaa.Gf
