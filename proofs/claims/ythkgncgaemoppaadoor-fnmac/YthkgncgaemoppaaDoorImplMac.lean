/- What the program's keyWith and Mac answer. -/
import Derived.Test.YthkgncgaemoppaaDoorMacLaws
namespace Go.Proofs.YthkgncgaemoppaaDoor.Sha
open Go.RowKit Go.Proofs.YthkgncgaemoppaaDoor.Mem

theorem wp_gen {P : Program} {c : Code} {Q : Exit → Act → World → Prop} {a : Act} {w : World} (R : World → Prop) (h : R w) (k : ∀ W, R W → c.wp P Q a W) : c.wp P Q a w := k w h

theorem copy_strT {P : Program} (dT sT ty elem T : TypeId) (hu : P.underlying dT = some (.slice elem)) (hinfo : (P.info? elem).map (fun i => (i.zero, i.size, i.bytes)) = some (some (.int .u8 0), 1, 1))
    (W : World) (g o dLen dCap : Nat) (s : ByteArray) (cur : List Value) (hg : HasRow W g cur T) (hle : s.size ≤ dLen) (hfit : o + s.size ≤ cur.length) :
    ∃ W', (Builtin.copy_ #[dT, sT] ty #[.slice (some ⟨g, o, none⟩) dLen dCap, .string s]).run P W = .ok (goInt s.size) W' ∧ HasRow W' g (cur.take o ++ Lib.byteCells s.data.toList ++ cur.drop (o + s.size)) T ∧ Below g W W' ∧ W'.heap.size = W.heap.size := by
  have hs : (P.info? elem).map (·.size) = some 1 := by
    obtain ⟨i, hi, hzz⟩ := Option.map_eq_some_iff.1 hinfo
    simp only [Prod.mk.injEq] at hzz
    simp [hi, hzz.2.1]
  refine ⟨_, Lib.run_copy_row_string W dT sT ty elem g o dLen dCap s cur.toArray T hu hs hg hle (by simpa using hfit), ?_, below_setRow (Below.refl _ _) (Nat.le_refl _) _, by simp [World.setRow]⟩
  have := setRow_heap W g _ (List.take o cur.toArray.toList ++ Lib.byteCells s.data.toList ++ List.drop (o + s.size) cur.toArray.toList).toArray T _ hg
  unfold HasRow
  simpa using this

set_option maxRecDepth 100000 in
set_option maxHeartbeats 2000000 in
theorem implKeyS (k' : ByteArray) (x : Nat) (w : World) (hz : k'.size ≤ 64) (hx : x < 256) :
    Calls Tryd.prog 34 #[.string k', .int .u8 (x : Int)] w fun e w' => e = .returned (.string (padK k' x)) ∧ Below w.heap.size w w' := by
  go_enter Tryd.func34, Tryd.ntmps34
  go_upto_region 4 with fail
  refine wp_gen (fun W => HasRow W w.heap.size (List.replicate 64 (.int .u8 0)) 71 ∧ Below w.heap.size w W) ⟨row_new w (List.replicate 64 (.int .u8 0)) 71, (Below.refl w.heap.size w).alloc (Nat.le_refl _) _⟩ ?_
  rintro W ⟨hg1, hb1⟩
  obtain ⟨W2, hc2, hg2, hb2, hz2⟩ := copy_strT (P := Tryd.prog) 22 9 3 5 71 Join.under Join.info8 W w.heap.size 0 64 64 k' _ hg1 (by omega) (by simp; omega)
  have er : List.take 0 (List.replicate 64 (Value.int .u8 0)) ++ Lib.byteCells k'.data.toList ++ List.drop (0 + k'.size) (List.replicate 64 (Value.int .u8 0)) = Lib.byteCells (keyL k' x 0) := by
    rw [keyL_start k' x hz, List.drop_replicate]
    simp
  rw [er] at hg2
  have HG : Hid (HasRow W2 w.heap.size (Lib.byteCells (keyL k' x 0)) 71) := hg2
  have HB : Hid (Below w.heap.size w W2) := hb1.trans (hb2.mono (Nat.le_refl _))
  have hxi : (x : Int) < 256 := by omega
  clear hg1 hg2 hb1 hb2 er hz2
  go_wp2_with fail
  go_loopw [15] (fun i wr => ∃ k : Nat, k ≤ 64 ∧ i = .int .i64 k ∧ HasRow wr w.heap.size (Lib.byteCells (keyL k' x k)) 71 ∧ Below w.heap.size w wr) (fun i _ => 64 - (intOf i).toNat)
  case atStart => exact ⟨0, by omega, rfl, HG.out, HB.out⟩
  case round =>
    clear HG HB
    obtain ⟨k, hk2, rfl, hrow, hbel⟩ := hrel
    by_cases hlt : k < 64
    · have hc := Mem.cell_of_row hrow k
      rw [keyL_cell k' x k hlt] at hc
      have hfz := Mem.frozen_of_row hrow k
      have hbl := byte_lt (k'.data.toList.getD k 0)
      have hxr := xor8 hbl hx
      have HS : Hid (HasRow (wr.setCell ⟨w.heap.size, k, none⟩ (.int .u8 (((k'.data.toList.getD k 0).toNat ^^^ x : Nat) : Int))) w.heap.size (Lib.byteCells (keyL k' x (k + 1))) 71) := by
        unfold Hid
        rw [← keyL_set k' x k hlt hx]
        exact row_set hrow _ _
      generalize (k'.data.toList.getD k 0).toNat = y at *
      generalize y ^^^ x = z at *
      have j0 : (0 : Int) ≤ (k : Int) := by omega
      have j1 : (k : Int) < 64 := by omega
      clear hrow
      go_wp2
      go_roundw
      case rel => exact ⟨k + 1, by omega, by go_num, HS.out, hbel.setCell (p := ⟨w.heap.size, k, none⟩) (Nat.le_refl _) _⟩
      case measure => simp [intOf]; omega
    · have e : k = 64 := by omega
      subst e
      have hcv := text_of_row (P := Tryd.prog) 22 9 5 Join.under Join.under8 Join.underS wr w.heap.size 64 64 (keyL k' x 64) [] (length_keyL _ _ _) (by simpa using hrow)
      rw [keyL_end] at hcv
      have HB2 : Hid _ := hbel
      clear hrow hbel
      go_wp2
      go_ret
      exact ⟨rfl, HB2.out⟩

set_option maxRecDepth 100000 in
set_option maxHeartbeats 2000000 in
theorem implKeyL (key k' : ByteArray) (x : Nat) (w : World) (hk1 : 64 < key.size) (hk2 : key.size ≤ 8000) (e : digB key = k') (hL : KeysLaid w) (hx : x < 256) :
    Calls Tryd.prog 34 #[.string key, .int .u8 (x : Int)] w fun e w' => e = .returned (.string (padK k' x)) ∧ Below w.heap.size w w' := by
  have hz : k'.size ≤ 64 := by rw [← e, size_digB]; omega
  have K0 : Hid (Calls Tryd.prog 33 #[.string key] w fun e w' => e = .returned (.string k') ∧ Below w.heap.size w w') := by unfold Hid; rw [← e]; exact implDig_any key w (by omega) hL
  clear e hL
  go_enter Tryd.func34, Tryd.ntmps34
  go_upto_region 4 with (go_at_call 33; refine K0.out.mono ?_; rintro e w0 ⟨rfl, hb0⟩)
  have hz0 := hb0.size
  refine wp_gen (fun W => HasRow W w0.heap.size (List.replicate 64 (.int .u8 0)) 71 ∧ Below w.heap.size w W) ⟨row_new w0 (List.replicate 64 (.int .u8 0)) 71, hb0.alloc hz0 _⟩ ?_
  rintro W ⟨hg1, hb1⟩
  obtain ⟨W2, hc2, hg2, hb2, hz2⟩ := copy_strT (P := Tryd.prog) 22 9 3 5 71 Join.under Join.info8 W w0.heap.size 0 64 64 k' _ hg1 (by omega) (by simp; omega)
  have er : List.take 0 (List.replicate 64 (Value.int .u8 0)) ++ Lib.byteCells k'.data.toList ++ List.drop (0 + k'.size) (List.replicate 64 (Value.int .u8 0)) = Lib.byteCells (keyL k' x 0) := by
    rw [keyL_start k' x hz, List.drop_replicate]
    simp
  rw [er] at hg2
  have HG : Hid (HasRow W2 w0.heap.size (Lib.byteCells (keyL k' x 0)) 71) := hg2
  have HB : Hid (Below w.heap.size w W2) := hb1.trans (hb2.mono hz0)
  have hxi : (x : Int) < 256 := by omega
  clear hg1 hg2 hb1 hb2 er hz2
  go_wp2_with fail
  go_loopw [15] (fun i wr => ∃ k : Nat, k ≤ 64 ∧ i = .int .i64 k ∧ HasRow wr w0.heap.size (Lib.byteCells (keyL k' x k)) 71 ∧ Below w.heap.size w wr) (fun i _ => 64 - (intOf i).toNat)
  case atStart => exact ⟨0, by omega, rfl, HG.out, HB.out⟩
  case round =>
    clear HG HB
    obtain ⟨k, hk2, rfl, hrow, hbel⟩ := hrel
    by_cases hlt : k < 64
    · have hc := Mem.cell_of_row hrow k
      rw [keyL_cell k' x k hlt] at hc
      have hfz := Mem.frozen_of_row hrow k
      have hbl := byte_lt (k'.data.toList.getD k 0)
      have hxr := xor8 hbl hx
      have HS : Hid (HasRow (wr.setCell ⟨w0.heap.size, k, none⟩ (.int .u8 (((k'.data.toList.getD k 0).toNat ^^^ x : Nat) : Int))) w0.heap.size (Lib.byteCells (keyL k' x (k + 1))) 71) := by
        unfold Hid
        rw [← keyL_set k' x k hlt hx]
        exact row_set hrow _ _
      generalize (k'.data.toList.getD k 0).toNat = y at *
      generalize y ^^^ x = z at *
      have j0 : (0 : Int) ≤ (k : Int) := by omega
      have j1 : (k : Int) < 64 := by omega
      clear hrow
      go_wp2
      go_roundw
      case rel => exact ⟨k + 1, by omega, by go_num, HS.out, hbel.setCell (p := ⟨w0.heap.size, k, none⟩) hz0 _⟩
      case measure => simp [intOf]; omega
    · have e : k = 64 := by omega
      subst e
      have hcv := text_of_row (P := Tryd.prog) 22 9 5 Join.under Join.under8 Join.underS wr w0.heap.size 64 64 (keyL k' x 64) [] (length_keyL _ _ _) (by simpa using hrow)
      rw [keyL_end] at hcv
      have HB2 : Hid _ := hbel
      clear hrow hbel
      go_wp2
      go_ret
      exact ⟨rfl, HB2.out⟩

theorem implKey_any (key : ByteArray) (x : Nat) (w : World) (hk : key.size ≤ 8000) (hL : KeysLaid w) (hx : x < 256) :
    Calls Tryd.prog 34 #[.string key, .int .u8 (x : Int)] w fun e w' => e = .returned (.string (padK (keyOf key) x)) ∧ Below w.heap.size w w' := by
  by_cases h : key.size ≤ 64
  · have e : keyOf key = key := by unfold keyOf; rw [if_pos h]
    rw [e]
    exact implKeyS key x w h hx
  · exact implKeyL key _ x w (by omega) hk (by unfold keyOf; rw [if_neg h]) hL hx

set_option maxHeartbeats 1000000 in
theorem implMac_any (key text : ByteArray) (w : World) (hL : KeysLaid w) :
    Calls Tryd.prog 16 #[.string key, .string text] w fun e w' => e = .returned (.string (macS key text)) ∧ Below w.heap.size w w' := by
  by_cases h1 : key.size ≤ 8000
  · by_cases h2 : text.size ≤ 8000
    · have e : macS key text = macK (keyOf key) text := by unfold macS; rw [if_pos ⟨h1, h2⟩, macB_eq]
      rw [e]
      have z1 := size_padK (keyOf key) 54
      have z2 := size_padK (keyOf key) 92
      have z3 := size_digB (padK (keyOf key) 54 ++ text)
      have K1 : Hid (∀ W, KeysLaid W → Calls Tryd.prog 34 #[.string key, .int .u8 54] W fun e w' => e = .returned (.string (padK (keyOf key) 54)) ∧ Below W.heap.size W w') := fun W h => implKey_any key 54 W h1 h (by omega)
      have K2 : Hid (∀ W, KeysLaid W → Calls Tryd.prog 34 #[.string key, .int .u8 92] W fun e w' => e = .returned (.string (padK (keyOf key) 92)) ∧ Below W.heap.size W w') := fun W h => implKey_any key 92 W h1 h (by omega)
      have K3 : Hid (∀ W, KeysLaid W → Calls Tryd.prog 33 #[.string (padK (keyOf key) 54 ++ text)] W fun e w' => e = .returned (.string (digB (padK (keyOf key) 54 ++ text))) ∧ Below W.heap.size W w') := fun W h => implDig_any _ W (by rw [ByteArray.size_append]; omega) h
      have K4 : Hid (∀ W, KeysLaid W → Calls Tryd.prog 33 #[.string (padK (keyOf key) 92 ++ digB (padK (keyOf key) 54 ++ text))] W fun e w' => e = .returned (.string (macK (keyOf key) text)) ∧ Below W.heap.size W w') := fun W h => implDig_any _ W (by rw [ByteArray.size_append]; omega) h
      have HL : Hid (KeysLaid w) := hL
      clear hL e
      generalize macK (keyOf key) text = M at *
      generalize padK (keyOf key) 54 = p1 at *
      generalize padK (keyOf key) 92 = p2 at *
      generalize digB (p1 ++ text) = D1 at *
      have J1 : Hid (∀ W, Calls Tryd.prog 32 #[.string p1, .string text] W fun e w' => e = .returned (.string (p1 ++ text)) ∧ Below W.heap.size W w') := fun W => Join.join_any p1 text W (by omega) (by omega)
      have J2 : Hid (∀ W, Calls Tryd.prog 32 #[.string p2, .string D1] W fun e w' => e = .returned (.string (p2 ++ D1)) ∧ Below W.heap.size W w') := fun W => Join.join_any p2 D1 W (by omega) (by omega)
      go_enter Tryd.func16, Tryd.ntmps16
      go_wp2_with (first
        | (go_at_call_of 34 (Value.int IntKind.u8 54); refine (K1.out _ HL.out).mono ?_; rintro e w1 ⟨rfl, hb1⟩)
        | (go_at_call_of 32 (Value.string p1); refine (J1.out _).mono ?_; rintro e w2 ⟨rfl, hb2⟩)
        | (go_at_call_of 33 (Value.string (p1 ++ text)); refine (K3.out _ (keys_below (bstep hb1 hb2) HL.out)).mono ?_; rintro e w3 ⟨rfl, hb3⟩)
        | (go_at_call_of 34 (Value.int IntKind.u8 92); refine (K2.out _ (keys_below (bstep (bstep hb1 hb2) hb3) HL.out)).mono ?_; rintro e w4 ⟨rfl, hb4⟩)
        | (go_at_call_of 32 (Value.string p2); refine (J2.out _).mono ?_; rintro e w5 ⟨rfl, hb5⟩)
        | (go_at_call_of 33 (Value.string (p2 ++ D1)); refine (K4.out _ (keys_below (bstep (bstep (bstep (bstep hb1 hb2) hb3) hb4) hb5) HL.out)).mono ?_; rintro e w6 ⟨rfl, hb6⟩))
      go_ret
      exact ⟨rfl, bstep (bstep (bstep (bstep (bstep hb1 hb2) hb3) hb4) hb5) hb6⟩
    · have e : macS key text = ByteArray.empty := by unfold macS; rw [if_neg (by omega)]
      rw [e]
      clear hL
      go_enter Tryd.func16, Tryd.ntmps16
      go_wp2
      go_ret
      exact ⟨rfl, Below.refl _ _⟩
  · have e : macS key text = ByteArray.empty := by unfold macS; rw [if_neg (by omega)]
    rw [e]
    clear hL
    go_enter Tryd.func16, Tryd.ntmps16
    go_wp2
    go_ret
    exact ⟨rfl, Below.refl _ _⟩
end Go.Proofs.YthkgncgaemoppaaDoor.Sha
