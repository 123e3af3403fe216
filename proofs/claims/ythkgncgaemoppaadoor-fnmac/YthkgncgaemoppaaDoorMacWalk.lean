/- FnMac's own road. -/
import Derived.Test.YthkgncgaemoppaaDoorDrawMac
import Derived.Deep.RegionWith
namespace Go.Proofs.YthkgncgaemoppaaDoor.MacWalk
open Go.RowKit Go.Proofs.YthkgncgaemoppaaDoor.Mem Go.Proofs.YthkgncgaemoppaaDoor.Sha Go.Proofs.YthkgncgaemoppaaDoor.Draw

theorem big (a0 : Option Addr) (len0 cap0 : Nat) (a1 : Option Addr) (len1 cap1 : Nat) (w : World) (h : (1048576 : Int) < len0 ∨ (1048576 : Int) < len1) :
    Calls Tryd.prog 4 #[.slice a0 len0 cap0, .slice a1 len1 cap1] w fun e w' => e = .returned (.bool true) ∧ Below w.heap.size w w' := by
  by_cases h0 : (1048576 : Int) < len0
  · go_enter Tryd.func4, Tryd.ntmps4
    go_wp2
    go_ret
    exact ⟨rfl, Below.refl _ _⟩
  · have h1 : (1048576 : Int) < len1 := by omega
    go_enter Tryd.func4, Tryd.ntmps4
    go_wp2
    go_ret
    exact ⟨rfl, Below.refl _ _⟩

theorem digest_small {s : ByteArray} (h : s.size ≤ 8000) : digestB s = digB s := by unfold digestB; rw [if_pos h]
theorem mac_small {key text : ByteArray} (h : key.size ≤ 64) (h2 : text.size ≤ 8000) : macS key text = digB (padK key 92 ++ digB (padK key 54 ++ text)) := by
  unfold macS
  rw [if_pos ⟨by omega, h2⟩, macB_eq]
  have e : Sha.keyOf key = key := by unfold Sha.keyOf; rw [if_pos h]
  rw [e]
  rfl
theorem stretch_next {pass : ByteArray} {n : Int} (hp : pass.size ≤ 8000) (h1 : 1 ≤ n) (h2 : n ≤ 99) : macS pass (stretchS pass n) = stretchS pass (n + 1) := by
  obtain ⟨k, rfl⟩ := Int.eq_ofNat_of_zero_le (by omega : 0 ≤ n)
  have e : ((k : Int) + 1) = ((k + 1 : Nat) : Int) := by omega
  rw [e, stretch_in hp (by omega) (by omega), stretch_in hp (by omega) (by omega)]
  exact mac_stretch pass k hp

set_option maxRecDepth 100000 in
set_option maxHeartbeats 4000000 in
theorem small (a0 : Option Addr) (len0 cap0 : Nat) (z0 : List Int) (a1 : Option Addr) (len1 cap1 : Nat) (z1 : List Int) (w : World) (hL : KeysLaid w) (w0 : IsRow w a0 len0 cap0 z0) (w1 : IsRow w a1 len1 cap1 z1)
    (h0 : (len0 : Int) ≤ 1048576) (h1 : (len1 : Int) ≤ 1048576) :
    Calls Tryd.prog 4 #[.slice a0 len0 cap0, .slice a1 len1 cap1] w fun e w' => e = .returned (.bool true) ∧ Below w.heap.size w w' := by
  have H0 : Hid (IsRow w a0 len0 cap0 z0) := w0
  have H1 : Hid (IsRow w a1 len1 cap1 z1) := w1
  have HK : Hid (KeysLaid w) := hL
  clear w0 w1 hL
  go_enter Tryd.func4, Tryd.ntmps4
  go_wp2_with fail
  refine (drawMac_any w a0 len0 cap0 z0 H0.out).mono ?_
  rintro e U1 ⟨key, text, rfl, hkz, htz, hb1⟩
  by_cases h64 : key.size ≤ 64
  · have hz1 := size_padK key 54
    have hz2 := size_padK key 92
    have hz3 := size_digB (padK key 54 ++ text)
    have L1 : Hid (∀ W, Calls Tryd.prog 15 #[.string key, .int .u8 54] W fun e w' => e = .returned (.string (padK key 54)) ∧ Below W.heap.size W w') := fun W => lwPad_any key 54 W h64 (by omega)
    have L2 : Hid (∀ W, Calls Tryd.prog 15 #[.string key, .int .u8 92] W fun e w' => e = .returned (.string (padK key 92)) ∧ Below W.heap.size W w') := fun W => lwPad_any key 92 W h64 (by omega)
    have D1 : Hid (∀ W, KeysLaid W → Calls Tryd.prog 14 #[.string (padK key 54 ++ text)] W fun e w' => e = .returned (.string (digB (padK key 54 ++ text))) ∧ Below W.heap.size W w') := fun W h => by
      rw [← digest_small (s := padK key 54 ++ text) (by rw [ByteArray.size_append]; omega)]
      exact implDigest_any _ W h
    have D2 : Hid (∀ W, KeysLaid W → Calls Tryd.prog 14 #[.string (padK key 92 ++ digB (padK key 54 ++ text))] W fun e w' => e = .returned (.string (macS key text)) ∧ Below W.heap.size W w') := fun W h => by
      rw [mac_small h64 (by omega), ← digest_small (s := padK key 92 ++ digB (padK key 54 ++ text)) (by rw [ByteArray.size_append]; omega)]
      exact implDigest_any _ W h
    have M1 : Hid (∀ W, KeysLaid W → Calls Tryd.prog 16 #[.string key, .string text] W fun e w' => e = .returned (.string (macS key text)) ∧ Below W.heap.size W w') := fun W h => implMac_any key text W h
    generalize macS key text = mk at *
    generalize padK key 54 = p1 at *
    generalize padK key 92 = p2 at *
    generalize digB (p1 ++ text) = d1 at *
    go_wp2_with fail
    refine (L1.out U1).mono ?_
    rintro e U2 ⟨rfl, hb2⟩
    have hC2 := bstep hb1 hb2
    go_wp2_with fail
    refine (D1.out U2 (keys_below hC2 HK.out)).mono ?_
    rintro e U3 ⟨rfl, hb3⟩
    have hC3 := bstep hC2 hb3
    go_wp2_with fail
    refine (M1.out U3 (keys_below hC3 HK.out)).mono ?_
    rintro e U4 ⟨rfl, hb4⟩
    have hC4 := bstep hC3 hb4
    go_wp2_with fail
    refine (L2.out U4).mono ?_
    rintro e U5 ⟨rfl, hb5⟩
    have hC5 := bstep hC4 hb5
    go_wp2_with fail
    refine (D2.out U5 (keys_below hC5 HK.out)).mono ?_
    rintro e U6 ⟨rfl, hb6⟩
    have hC6 := bstep hC5 hb6
    clear hb1 hb2 hb3 hb4 hb5 hb6 hC2 hC3 hC4 hC5 L1 L2 D1 D2 M1
    go_wp2_with fail
    refine (drawDigest_any U6 a1 len1 cap1 z1 (Draw.row_below H1.out hC6)).mono ?_
    rintro e V1 ⟨t, rfl, ht, hv1⟩
    have hB1 := bstep hC6 hv1
    go_wp2_with fail
    refine (drawStretch_any V1 a1 len1 cap1 z1 (Draw.row_below H1.out hB1)).mono ?_
    rintro e V2 ⟨pass, n, rfl, hp, hn1, hn2, hv2⟩
    have hB2 := bstep hB1 hv2
    go_wp2_with fail
    refine (implDigest_any t V2 (keys_below hB2 HK.out)).mono ?_
    rintro e V3 ⟨rfl, hv3⟩
    have hB3 := bstep hB2 hv3
    go_wp2_with fail
    refine (specDigest_any t V3).mono ?_
    rintro e V4 ⟨rfl, hv4⟩
    have hB4 := bstep hB3 hv4
    generalize digestB t = dt at *
    go_wp2_with fail
    refine (implStretch_any pass n V4 (keys_below hB4 HK.out)).mono ?_
    rintro e V5 ⟨rfl, hv5⟩
    have hB5 := bstep hB4 hv5
    go_wp2_with fail
    refine (specStretch_any pass n V5).mono ?_
    rintro e V6 ⟨rfl, hv6⟩
    have hB6 := bstep hB5 hv6
    have KN : Hid (∀ W, KeysLaid W → Calls Tryd.prog 20 #[.string pass, .int .i64 n] W fun e w' => e = .returned (.string (stretchS pass n)) ∧ Below W.heap.size W w') := fun W h => implStretch_any pass n W h
    by_cases hlow : n < 1
    · generalize stretchS pass n = sn at *
      clear hv1 hv2 hv3 hv4 hv5 hv6 hB1 hB2 hB3 hB4 hB5
      go_wp2
      go_ret
      exact ⟨rfl, hB6⟩
    · by_cases hhigh : 99 < n
      · generalize stretchS pass n = sn at *
        clear hv1 hv2 hv3 hv4 hv5 hv6 hB1 hB2 hB3 hB4 hB5
        go_wp2
        go_ret
        exact ⟨rfl, hB6⟩
      · have hps : pass.size ≤ 8000 := by omega
        have KM : Hid (∀ W, KeysLaid W → Calls Tryd.prog 16 #[.string pass, .string (stretchS pass n)] W fun e w' => e = .returned (.string (stretchS pass (n + 1))) ∧ Below W.heap.size W w') := fun W h => by
          rw [← stretch_next hps (by omega) (by omega)]
          exact implMac_any pass _ W h
        have KS : Hid (∀ W, KeysLaid W → Calls Tryd.prog 20 #[.string pass, .int .i64 (n + 1)] W fun e w' => e = .returned (.string (stretchS pass (n + 1))) ∧ Below W.heap.size W w') := fun W h => implStretch_any pass (n + 1) W h
        generalize stretchS pass n = sn at *
        generalize stretchS pass (n + 1) = sm at *
        clear hv1 hv2 hv3 hv4 hv5 hv6 hB1 hB2 hB3 hB4 hB5
        go_wp2_with fail
        refine (KS.out V6 (keys_below hB6 HK.out)).mono ?_
        rintro e V7 ⟨rfl, hv7⟩
        have hB7 := bstep hB6 hv7
        go_wp2_with fail
        refine (KN.out V7 (keys_below hB7 HK.out)).mono ?_
        rintro e V8 ⟨rfl, hv8⟩
        have hB8 := bstep hB7 hv8
        go_wp2_with fail
        refine (KM.out V8 (keys_below hB8 HK.out)).mono ?_
        rintro e V9 ⟨rfl, hv9⟩
        have hB9 := bstep hB8 hv9
        go_wp2
        go_ret
        exact ⟨rfl, hB9⟩
  · go_wp2_with fail
    refine (drawDigest_any U1 a1 len1 cap1 z1 (Draw.row_below H1.out hb1)).mono ?_
    rintro e V1 ⟨t, rfl, ht, hv1⟩
    have hB1 := bstep hb1 hv1
    go_wp2_with fail
    refine (drawStretch_any V1 a1 len1 cap1 z1 (Draw.row_below H1.out hB1)).mono ?_
    rintro e V2 ⟨pass, n, rfl, hp, hn1, hn2, hv2⟩
    have hB2 := bstep hB1 hv2
    go_wp2_with fail
    refine (implDigest_any t V2 (keys_below hB2 HK.out)).mono ?_
    rintro e V3 ⟨rfl, hv3⟩
    have hB3 := bstep hB2 hv3
    go_wp2_with fail
    refine (specDigest_any t V3).mono ?_
    rintro e V4 ⟨rfl, hv4⟩
    have hB4 := bstep hB3 hv4
    generalize digestB t = dt at *
    go_wp2_with fail
    refine (implStretch_any pass n V4 (keys_below hB4 HK.out)).mono ?_
    rintro e V5 ⟨rfl, hv5⟩
    have hB5 := bstep hB4 hv5
    go_wp2_with fail
    refine (specStretch_any pass n V5).mono ?_
    rintro e V6 ⟨rfl, hv6⟩
    have hB6 := bstep hB5 hv6
    have KN : Hid (∀ W, KeysLaid W → Calls Tryd.prog 20 #[.string pass, .int .i64 n] W fun e w' => e = .returned (.string (stretchS pass n)) ∧ Below W.heap.size W w') := fun W h => implStretch_any pass n W h
    by_cases hlow : n < 1
    · generalize stretchS pass n = sn at *
      clear hv1 hv2 hv3 hv4 hv5 hv6 hB1 hB2 hB3 hB4 hB5
      go_wp2
      go_ret
      exact ⟨rfl, hB6⟩
    · by_cases hhigh : 99 < n
      · generalize stretchS pass n = sn at *
        clear hv1 hv2 hv3 hv4 hv5 hv6 hB1 hB2 hB3 hB4 hB5
        go_wp2
        go_ret
        exact ⟨rfl, hB6⟩
      · have hps : pass.size ≤ 8000 := by omega
        have KM : Hid (∀ W, KeysLaid W → Calls Tryd.prog 16 #[.string pass, .string (stretchS pass n)] W fun e w' => e = .returned (.string (stretchS pass (n + 1))) ∧ Below W.heap.size W w') := fun W h => by
          rw [← stretch_next hps (by omega) (by omega)]
          exact implMac_any pass _ W h
        have KS : Hid (∀ W, KeysLaid W → Calls Tryd.prog 20 #[.string pass, .int .i64 (n + 1)] W fun e w' => e = .returned (.string (stretchS pass (n + 1))) ∧ Below W.heap.size W w') := fun W h => implStretch_any pass (n + 1) W h
        generalize stretchS pass n = sn at *
        generalize stretchS pass (n + 1) = sm at *
        clear hv1 hv2 hv3 hv4 hv5 hv6 hB1 hB2 hB3 hB4 hB5
        go_wp2_with fail
        refine (KS.out V6 (keys_below hB6 HK.out)).mono ?_
        rintro e V7 ⟨rfl, hv7⟩
        have hB7 := bstep hB6 hv7
        go_wp2_with fail
        refine (KN.out V7 (keys_below hB7 HK.out)).mono ?_
        rintro e V8 ⟨rfl, hv8⟩
        have hB8 := bstep hB7 hv8
        go_wp2_with fail
        refine (KM.out V8 (keys_below hB8 HK.out)).mono ?_
        rintro e V9 ⟨rfl, hv9⟩
        have hB9 := bstep hB8 hv9
        go_wp2
        go_ret
        exact ⟨rfl, hB9⟩

theorem law_any (a0 : Option Addr) (len0 cap0 : Nat) (z0 : List Int) (a1 : Option Addr) (len1 cap1 : Nat) (z1 : List Int) (w : World) (hL : KeysLaid w) (w0 : IsRow w a0 len0 cap0 z0) (w1 : IsRow w a1 len1 cap1 z1) :
    Calls Tryd.prog 4 #[.slice a0 len0 cap0, .slice a1 len1 cap1] w fun e w' => e = .returned (.bool true) ∧ Below w.heap.size w w' := by
  by_cases h : (1048576 : Int) < len0 ∨ (1048576 : Int) < len1
  · exact big a0 len0 cap0 a1 len1 cap1 w h
  · exact small a0 len0 cap0 z0 a1 len1 cap1 z1 w hL w0 w1 (by omega) (by omega)
end Go.Proofs.YthkgncgaemoppaaDoor.MacWalk
