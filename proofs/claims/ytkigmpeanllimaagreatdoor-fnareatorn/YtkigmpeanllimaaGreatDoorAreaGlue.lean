/- What AreaPut, AreaFormat and a crash have to do with what is read behind them. -/
import Derived.Test.YtkigmpeanllimaaGreatDoorTextsE
import Derived.Test.YtkigmpeanllimaaGreatDoorSpecPut
import Derived.Test.YtkigmpeanllimaaGreatDoorSpecFormat
namespace Go.Proofs.YtkigmpeanllimaaGreatDoor.Disk
open Go.RowKit Go.Proofs.YtkigmpeanllimaaGreatDoor.Mem Go.Proofs.YtkigmpeanllimaaGreatDoor.Harn Go.Proofs.YtkigmpeanllimaaGreatDoor.DiskP

/-- A text that was put found a text ahead, and room. -/
theorem put_cases {ls : List ByteArray} {lp : List (Int × ByteArray)} {s : ByteArray} {x : Int} (h : (putAO ls lp s x).c = 0) :
    ∃ (g : Int) (sd n : Nat) (t : ByteArray), rightB ls lp = true ∧ readAO ls lp = ⟨ls, lp, t, g, 0⟩ ∧ 0 ≤ g ∧ g < 1000000 ∧ sd ≤ 1 ∧ seenO ls lp = (g, (sd : Int), (n : Int), 0) ∧ s.size ≤ 64 * halfN ls ∧ s.size ≤ 8000 ∧
      putAO ls lp s x = runO ls lp ((allS s (firstN ls (1 - sd)) (g + 1) ((1 - sd : Nat) : Int)).take x.toNat) := by
  have h8 : ¬ 8000 < s.size := fun h8 => by
    unfold putAO at h
    rw [if_pos h8] at h
    exact absurd h (by decide)
  rcases readAO_cases ls lp with ⟨g, sd, n, t, hr, e, hg, hs, _, hsn⟩ | hr | ⟨c, hr, e, hc⟩
  · have hc : ¬ (64 * halfN ls < s.size ∨ 1000000 ≤ g) := fun hc => by
      unfold putAO at h
      rw [if_neg h8, e] at h
      simp only at h
      rw [if_pos trivial, if_pos hc] at h
      exact absurd h (by decide)
    exact ⟨g, sd, n, t, hr, e, hg, by omega, hs, hsn, by omega, by omega, putAO_ok h8 e hsn hc⟩
  · have e : readAO ls lp = illA 1 := by unfold readAO; rw [hr]; rfl
    unfold putAO at h
    rw [if_neg h8, e, if_neg (by decide)] at h
    exact absurd h (by decide)
  · unfold putAO at h
    rw [if_neg h8, e] at h
    have h1 : (illA c).c = c := rfl
    rw [if_neg (by rw [h1]; exact hc)] at h
    exact absurd h hc
/-- All its steps done, it is read again. -/
theorem put_again {ls : List ByteArray} {lp : List (Int × ByteArray)} {s : ByteArray} (h : (putAO ls lp s 1000).c = 0) :
    readAO (putAO ls lp s 1000).ls (putAO ls lp s 1000).lp = ⟨(putAO ls lp s 1000).ls, (putAO ls lp s 1000).lp, s, (readAO ls lp).g + 1, 0⟩ ∧ 0 ≤ (readAO ls lp).g ∧ (readAO ls lp).g < 1000000 := by
  obtain ⟨g, sd, n, t, hr, e, hg, hg2, hs, hsn, hz, h8, ep⟩ := put_cases h
  have hk : (allS s (firstN ls (1 - sd)) (g + 1) ((1 - sd : Nat) : Int)).take (1000 : Int).toNat = allS s (firstN ls (1 - sd)) (g + 1) ((1 - sd : Nat) : Int) := List.take_of_length_le (by rw [allS_len]; unfold textN; omega)
  rw [hk] at ep
  rw [ep] at h ⊢
  rw [e]
  exact ⟨put_read hr (by omega) (by omega) (by omega) hz h, hg, hg2⟩
/-- One that has no room is refused. -/
theorem put_full {ls : List ByteArray} {lp : List (Int × ByteArray)} {s : ByteArray} {x : Int} (h : (readAO ls lp).c = 0) (h8 : s.size ≤ 8000) (hf : roomN ls lp < s.size) : (putAO ls lp s x).c = 9 := by
  rcases readAO_cases ls lp with ⟨g, sd, n, t, hr, e, hg, hs, _, hsn⟩ | hr | ⟨c, hr, e, hc⟩
  · rw [roomN_yes hr] at hf
    unfold putAO
    rw [if_neg (by omega), if_pos h, if_pos (.inl hf)]
    rfl
  · have e : readAO ls lp = illA 1 := by unfold readAO; rw [hr]; rfl
    rw [e] at h
    exact absurd h (by decide)
  · rw [e] at h
    exact absurd h hc
/-- A disk that was formatted has no text. -/
theorem format_read {ls : List ByteArray} {lp : List (Int × ByteArray)} (h : (formatO ls lp).c = 0) : readAO (formatO ls lp).ls (formatO ls lp).lp = ⟨(formatO ls lp).ls, (formatO ls lp).lp, ByteArray.empty, 0, 0⟩ := by
  by_cases hr : rightB ls lp = true
  · by_cases h3 : ls.length < 3
    · rw [formatO_full hr h3] at h
      exact absurd h (by decide)
    · have e := formatO_ok hr h3
      rw [e] at h ⊢
      have hrr := runO_right _ ls lp hr h
      have e2 : ([(false, 0, headB 0 0 0), (true, 0, ByteArray.empty)] : List Step) = [(false, 0, headB 0 0 0)] ++ [(true, 0, ByteArray.empty)] := rfl
      rw [e2] at h hrr ⊢
      obtain ⟨h1, ea⟩ := runO_app _ _ ls lp h
      obtain ⟨w1, w2⟩ := runO_write h1
      have hr1 := (runO_right _ ls lp hr h1).1
      rw [ea] at h hrr ⊢
      rw [w1, w2] at h hrr ⊢ hr1
      obtain ⟨f1, f2⟩ := runO_flush h
      rw [f1, f2] at hrr ⊢
      refine (read_new hrr.1 (by omega) (by omega) (Nat.zero_le 1) (by show 0 ≤ _; omega) ?_ (fun k hk => absurd hk (by show ¬ k < textN ByteArray.empty; unfold textN; simp))).1
      rw [read_flushed ls _ (flush_pos hr1) 0 (by omega), readD_snoc]
      exact if_pos rfl
  · rw [formatO_form (by simpa using hr)] at h
    exact absurd h (by decide)
/-- Wherever the power goes: the text ahead, or the new one. -/
theorem torn_all {ls : List ByteArray} {s : ByteArray} {x : Int} (kp : List Int) (hkp : kp.length ≤ 14) (h : (putAO ls [] s x).c = 0) :
    ((readAO (crashO (putAO ls [] s x).ls (putAO ls [] s x).lp kp).1 (crashO (putAO ls [] s x).ls (putAO ls [] s x).lp kp).2 = ⟨(crashO (putAO ls [] s x).ls (putAO ls [] s x).lp kp).1, (crashO (putAO ls [] s x).ls (putAO ls [] s x).lp kp).2, (readAO ls []).t, (readAO ls []).g, 0⟩ ∧ x < 200) ∨
      readAO (crashO (putAO ls [] s x).ls (putAO ls [] s x).lp kp).1 (crashO (putAO ls [] s x).ls (putAO ls [] s x).lp kp).2 = ⟨(crashO (putAO ls [] s x).ls (putAO ls [] s x).lp kp).1, (crashO (putAO ls [] s x).ls (putAO ls [] s x).lp kp).2, s, (readAO ls []).g + 1, 0⟩) ∧ 0 ≤ (readAO ls []).g ∧ (readAO ls []).g < 1000000 := by
  obtain ⟨g, sd, n, t, hr, e, hg, hg2, hs, hsn, hz, h8, ep⟩ := put_cases h
  rw [ep] at h ⊢
  rw [e]
  refine ⟨?_, hg, hg2⟩
  rcases torn_read kp x.toNat (by omega) hr hg hg2 hs hz hsn e h with ⟨h1, h2⟩ | h1
  · exact .inl ⟨h1, by unfold textN at h2; omega⟩
  · exact .inr h1
end Go.Proofs.YtkigmpeanllimaaGreatDoor.Disk
