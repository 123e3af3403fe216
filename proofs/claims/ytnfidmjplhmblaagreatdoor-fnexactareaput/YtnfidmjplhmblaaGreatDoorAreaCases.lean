/- What the look at an area comes to. -/
import Derived.Test.YtnfidmjplhmblaaGreatDoorImplArea
import Derived.Test.YtnfidmjplhmblaaGreatDoorSeenOk
namespace Go.Proofs.YtnfidmjplhmblaaGreatDoor.Disk
open Go.RowKit Go.Proofs.YtnfidmjplhmblaaGreatDoor.Mem Go.Proofs.YtnfidmjplhmblaaGreatDoor.Harn Go.Proofs.YtnfidmjplhmblaaGreatDoor.DiskP Go.Proofs.YtnfidmjplhmblaaGreatDoor.Sent

theorem codeE_of {c : Int} {g : Nat} (hc : c = 3 ∨ c = 4 ∨ c = 5) (h : errOf c = some g) : codeE (some g) = c ∧ g ∈ sentL := by
  rcases hc with rfl | rfl | rfl
  · obtain rfl : 5 = g := Option.some.inj h
    exact ⟨rfl, by simp [sentL]⟩
  · obtain rfl : 2 = g := Option.some.inj h
    exact ⟨rfl, by simp [sentL]⟩
  · obtain rfl : 3 = g := Option.some.inj h
    exact ⟨rfl, by simp [sentL]⟩
/-- What the look at an area comes to. -/
theorem areaR_cases (ls : List ByteArray) (lp : List (Int × ByteArray)) : (∃ (g : Int) (s n : Nat) (t : ByteArray), rightB ls lp = true ∧ areaR ls lp = ((g, (s : Int), (n : Int)), t, none) ∧ readAO ls lp = ⟨ls, lp, t, g, 0⟩ ∧ 0 ≤ g ∧ s ≤ 1 ∧ n ≤ 64 * halfN ls ∧ seenO ls lp = (g, (s : Int), (n : Int), 0)) ∨ (∃ g s n t ge, areaR ls lp = ((g, s, n), t, some ge) ∧ readAO ls lp = illA (codeE (some ge)) ∧ ge ∈ sentL ∧ codeE (some ge) ≠ 0) := by
  cases hr : rightB ls lp
  · exact .inr ⟨_, _, _, _, _, areaR_form hr, readAO_form hr, by simp [sentL], by decide⟩
  · rcases seen_cases ls lp with ⟨g, s, n, hsn, hg0, hs1, hn1, _⟩ | hsn
    · have h := areaR_ok hr hsn
      cases hR : sideK (readD ls lp) (halfN ls) (firstN ls s) n with
      | none =>
        rw [hR] at h
        exact .inr ⟨_, _, _, _, _, h, readAO_none hr hsn hR, by simp [sentL], by decide⟩
      | some t =>
        rw [hR] at h
        exact .inl ⟨g, s, n, t, rfl, h, readAO_some hr hsn hR, hg0, hs1, hn1, hsn⟩
    · obtain ⟨cd, hsn, hcd⟩ : ∃ cd : Int, seenO ls lp = (0, 0, 0, cd) ∧ (cd = 3 ∨ cd = 4 ∨ cd = 5) := by
        rcases hsn with h | h | h
        · exact ⟨3, h, .inl rfl⟩
        · exact ⟨4, h, .inr (.inl rfl)⟩
        · exact ⟨5, h, .inr (.inr rfl)⟩
      obtain ⟨ge, hge⟩ : ∃ ge, errOf cd = some ge := by rcases hcd with rfl | rfl | rfl <;> exact ⟨_, rfl⟩
      obtain ⟨h1, h2⟩ := codeE_of hcd hge
      have h := areaR_code hr hsn (by omega)
      rw [hge] at h
      exact .inr ⟨_, _, _, _, ge, h, by rw [h1]; exact readAO_code hr hsn (by omega), h2, by rw [h1]; omega⟩

end Go.Proofs.YtnfidmjplhmblaaGreatDoor.Disk
