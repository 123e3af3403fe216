/- What the two Stretch functions answer. -/
import Derived.Test.YthkgncgaemoppaaDoorImplMac
namespace Go.Proofs.YthkgncgaemoppaaDoor.Sha
open Go.RowKit Go.Proofs.YthkgncgaemoppaaDoor.Mem

def stretchS (pass : ByteArray) (n : Int) : ByteArray := if pass.size ≤ 8000 ∧ 1 ≤ n ∧ n ≤ 100 then stretchB pass n.toNat else ByteArray.empty

theorem mac_stretch (pass : ByteArray) (k : Nat) (hp : pass.size ≤ 8000) : macS pass (stretchB pass k) = stretchB pass (k + 1) := by
  have := size_stretchB pass k
  unfold macS
  rw [if_pos ⟨hp, by omega⟩]
  rfl

set_option maxHeartbeats 1000000 in
theorem specStretch_in (pass : ByteArray) (n : Nat) (w : World) (hp : pass.size ≤ 8000) (h1 : 1 ≤ n) (h2 : n ≤ 100) :
    Calls Tryd.prog 21 #[.string pass, .int .i64 (n : Int)] w fun e w' => e = .returned (.string (stretchB pass n)) ∧ Below w.heap.size w w' := by
  have K : Hid (∀ k W, Calls Tryd.prog 37 #[.string pass, .string (stretchB pass k)] W fun e w' => e = .returned (.string (stretchB pass (k + 1))) ∧ Below W.heap.size W w') := fun k W => by
    have := size_stretchB pass k
    exact specMac0_any pass (stretchB pass k) W hp (by omega)
  have H0 : Hid (Value.string { data := #[115, 97, 108, 116] } = .string (stretchB pass 0)) := rfl
  generalize stretchB pass = G at *
  have g1 : (1 : Int) ≤ (n : Int) := by omega
  have g2 : (n : Int) ≤ 100 := by omega
  go_enter Tryd.func21, Tryd.ntmps21
  go_wp2_with fail
  go_loopw [5, 6] (fun t k wr => ∃ i : Nat, i ≤ n ∧ k = .int .i64 i ∧ t = .string (G i) ∧ Below w.heap.size w wr) (fun _ k _ => n - (intOf k).toNat)
  case atStart => exact ⟨0, by omega, rfl, H0.out, Below.refl _ _⟩
  case round =>
    clear H0
    obtain ⟨i, hi, rfl, rfl, hbel⟩ := hrel
    by_cases hlt : i < n
    · have K1 : Hid (∀ W, Calls Tryd.prog 37 #[.string pass, .string (G i)] W fun e w' => e = .returned (.string (G (i + 1))) ∧ Below W.heap.size W w') := K.out i
      go_wp2_with (go_at_call 37; refine (K1.out _).mono ?_; rintro e w1 ⟨rfl, hb1⟩)
      go_roundw
      case rel => exact ⟨i + 1, by omega, by go_num, rfl, bstep hbel hb1⟩
      case measure => simp [intOf]; omega
    · have e : i = n := by omega
      subst e
      go_wp2_with fail
      go_ret
      exact ⟨rfl, hbel⟩

set_option maxHeartbeats 1000000 in
theorem implStretch_in (pass : ByteArray) (n : Nat) (w : World) (hp : pass.size ≤ 8000) (h1 : 1 ≤ n) (h2 : n ≤ 100) (hL : KeysLaid w) :
    Calls Tryd.prog 20 #[.string pass, .int .i64 (n : Int)] w fun e w' => e = .returned (.string (stretchB pass n)) ∧ Below w.heap.size w w' := by
  have K : Hid (∀ k W, KeysLaid W → Calls Tryd.prog 16 #[.string pass, .string (stretchB pass k)] W fun e w' => e = .returned (.string (stretchB pass (k + 1))) ∧ Below W.heap.size W w') := fun k W h => by
    rw [← mac_stretch pass k hp]
    exact implMac_any pass (stretchB pass k) W h
  have H0 : Hid (Value.string { data := #[115, 97, 108, 116] } = .string (stretchB pass 0)) := rfl
  have HL : Hid (KeysLaid w) := hL
  clear hL
  generalize stretchB pass = G at *
  have g1 : (1 : Int) ≤ (n : Int) := by omega
  have g2 : (n : Int) ≤ 100 := by omega
  go_enter Tryd.func20, Tryd.ntmps20
  go_wp2_with fail
  go_loopw [5, 18] (fun t k wr => ∃ i : Nat, i ≤ n ∧ k = .int .i64 i ∧ t = .string (G i) ∧ Below w.heap.size w wr) (fun _ k _ => n - (intOf k).toNat)
  case atStart => exact ⟨0, by omega, rfl, H0.out, Below.refl _ _⟩
  case round =>
    clear H0
    obtain ⟨i, hi, rfl, rfl, hbel⟩ := hrel
    by_cases hlt : i < n
    · have K1 : Hid (∀ W, KeysLaid W → Calls Tryd.prog 16 #[.string pass, .string (G i)] W fun e w' => e = .returned (.string (G (i + 1))) ∧ Below W.heap.size W w') := K.out i
      have HLW : Hid (KeysLaid wr) := keys_below hbel HL.out
      go_wp2_with (go_at_call 16; refine (K1.out _ HLW.out).mono ?_; rintro e w1 ⟨rfl, hb1⟩)
      go_roundw
      case rel => exact ⟨i + 1, by omega, by go_num, rfl, bstep hbel hb1⟩
      case measure => simp [intOf]; omega
    · have e : i = n := by omega
      subst e
      go_wp2_with fail
      go_ret
      exact ⟨rfl, hbel⟩

theorem stretch_out {pass : ByteArray} {n : Int} (h : ¬ (pass.size ≤ 8000 ∧ 1 ≤ n ∧ n ≤ 100)) : stretchS pass n = ByteArray.empty := by unfold stretchS; rw [if_neg h]
theorem stretch_in {pass : ByteArray} {n : Nat} (h1 : pass.size ≤ 8000) (h2 : 1 ≤ n) (h3 : n ≤ 100) : stretchS pass (n : Int) = stretchB pass n := by
  unfold stretchS
  rw [if_pos ⟨h1, by omega, by omega⟩]
  rfl

theorem specStretch_any (pass : ByteArray) (n : Int) (w : World) :
    Calls Tryd.prog 21 #[.string pass, .int .i64 n] w fun e w' => e = .returned (.string (stretchS pass n)) ∧ Below w.heap.size w w' := by
  by_cases h1 : pass.size ≤ 8000
  · by_cases h2 : 1 ≤ n
    · by_cases h3 : n ≤ 100
      · obtain ⟨k, rfl⟩ := Int.eq_ofNat_of_zero_le (by omega : 0 ≤ n)
        rw [stretch_in h1 (by omega) (by omega)]
        exact specStretch_in pass k w h1 (by omega) (by omega)
      · rw [stretch_out (by omega)]
        go_enter Tryd.func21, Tryd.ntmps21
        go_wp2
        go_ret
        exact ⟨rfl, Below.refl _ _⟩
    · rw [stretch_out (by omega)]
      go_enter Tryd.func21, Tryd.ntmps21
      go_wp2
      go_ret
      exact ⟨rfl, Below.refl _ _⟩
  · rw [stretch_out (by omega)]
    go_enter Tryd.func21, Tryd.ntmps21
    go_wp2
    go_ret
    exact ⟨rfl, Below.refl _ _⟩

theorem implStretch_any (pass : ByteArray) (n : Int) (w : World) (hL : KeysLaid w) :
    Calls Tryd.prog 20 #[.string pass, .int .i64 n] w fun e w' => e = .returned (.string (stretchS pass n)) ∧ Below w.heap.size w w' := by
  by_cases h1 : pass.size ≤ 8000
  · by_cases h2 : 1 ≤ n
    · by_cases h3 : n ≤ 100
      · obtain ⟨k, rfl⟩ := Int.eq_ofNat_of_zero_le (by omega : 0 ≤ n)
        rw [stretch_in h1 (by omega) (by omega)]
        exact implStretch_in pass k w h1 (by omega) (by omega) hL
      · rw [stretch_out (by omega)]
        clear hL
        go_enter Tryd.func20, Tryd.ntmps20
        go_wp2
        go_ret
        exact ⟨rfl, Below.refl _ _⟩
    · rw [stretch_out (by omega)]
      clear hL
      go_enter Tryd.func20, Tryd.ntmps20
      go_wp2
      go_ret
      exact ⟨rfl, Below.refl _ _⟩
  · rw [stretch_out (by omega)]
    clear hL
    go_enter Tryd.func20, Tryd.ntmps20
    go_wp2
    go_ret
    exact ⟨rfl, Below.refl _ _⟩
end Go.Proofs.YthkgncgaemoppaaDoor.Sha
