/- What a head that is read has. -/
import Derived.Test.YtnfidmjplhmblaaGreatDoorTextsH
namespace Go.Proofs.YtnfidmjplhmblaaGreatDoor.Disk
open Go.RowKit Go.Proofs.YtnfidmjplhmblaaGreatDoor.DiskP

theorem seen_cases (ls : List ByteArray) (lp : List (Int × ByteArray)) : (∃ (g : Int) (s n : Nat), seenO ls lp = (g, (s : Int), (n : Int), 0) ∧ 0 ≤ g ∧ s ≤ 1 ∧ n ≤ 64 * halfN ls ∧ headNum ((readD ls lp 0).extract 0 ((readD ls lp 0).size - 4)) = some (g, (s : Int), (n : Int)) ∧ ¬ (readD ls lp 0).size < 4 ∧ Unseal.okSeal (readD ls lp 0) = true) ∨ seenO ls lp = (0, 0, 0, 3) ∨ seenO ls lp = (0, 0, 0, 4) ∨ seenO ls lp = (0, 0, 0, 5) := by
  unfold seenO
  split
  · exact .inr (.inr (.inl rfl))
  · rename_i h4
    split
    · exact .inr (.inr (.inr rfl))
    · rename_i hk
      have hk2 : Unseal.okSeal (readD ls lp 0) = true := by simpa using hk
      cases h : headNum ((readD ls lp 0).extract 0 ((readD ls lp 0).size - 4)) with
      | none => exact .inr (.inl rfl)
      | some x =>
        obtain ⟨g, s, n⟩ := x
        dsimp only
        split
        · rename_i hh
          obtain ⟨h1, ⟨h2, h3⟩, h5, h6⟩ := hh
          refine .inl ⟨g, s.toNat, n.toNat, ?_, h1, by omega, by omega, ?_, h4, hk2⟩
          · rw [Int.toNat_of_nonneg h2, Int.toNat_of_nonneg h5]
          · rw [Int.toNat_of_nonneg h2, Int.toNat_of_nonneg h5]
        · exact .inr (.inl rfl)
theorem readAO_form {ls : List ByteArray} {lp : List (Int × ByteArray)} (h : rightB ls lp = false) : readAO ls lp = illA 1 := by unfold readAO; rw [h]; rfl
theorem readAO_code {ls : List ByteArray} {lp : List (Int × ByteArray)} {g s n c : Int} (h : rightB ls lp = true) (h2 : seenO ls lp = (g, s, n, c)) (hc : c ≠ 0) : readAO ls lp = illA c := by unfold readAO; rw [if_pos h, h2]; exact if_neg hc
theorem readAO_ok {ls : List ByteArray} {lp : List (Int × ByteArray)} {g : Int} {s n : Nat} (h : rightB ls lp = true) (h2 : seenO ls lp = (g, (s : Int), (n : Int), 0)) : readAO ls lp = match sideK (readD ls lp) (halfN ls) (firstN ls s) n with
      | some t => ⟨ls, lp, t, g, 0⟩
      | none => illA 5 := by unfold readAO; rw [if_pos h, h2]; rfl
theorem readAO_some {ls : List ByteArray} {lp : List (Int × ByteArray)} {g : Int} {s n : Nat} {t : ByteArray} (h : rightB ls lp = true) (h2 : seenO ls lp = (g, (s : Int), (n : Int), 0)) (h3 : sideK (readD ls lp) (halfN ls) (firstN ls s) n = some t) : readAO ls lp = ⟨ls, lp, t, g, 0⟩ := by rw [readAO_ok h h2, h3]
theorem readAO_none {ls : List ByteArray} {lp : List (Int × ByteArray)} {g : Int} {s n : Nat} (h : rightB ls lp = true) (h2 : seenO ls lp = (g, (s : Int), (n : Int), 0)) (h3 : sideK (readD ls lp) (halfN ls) (firstN ls s) n = none) : readAO ls lp = illA 5 := by rw [readAO_ok h h2, h3]
theorem readAO_fits {ls : List ByteArray} {lp : List (Int × ByteArray)} (h : Fits ls lp) : Fits (readAO ls lp).ls (readAO ls lp).lp := by
  unfold readAO
  split
  · split
    · split
      · exact h
      · exact fits_nil
    · exact fits_nil
  · exact fits_nil
theorem readAO_len {ls : List ByteArray} {lp : List (Int × ByteArray)} (h : Fits ls lp) : (readAO ls lp).ls.length ≤ 1100000 ∧ (readAO ls lp).lp.length ≤ 1100000 := ⟨(readAO_fits h).n, (readAO_fits h).m⟩
end Go.Proofs.YtnfidmjplhmblaaGreatDoor.Disk
