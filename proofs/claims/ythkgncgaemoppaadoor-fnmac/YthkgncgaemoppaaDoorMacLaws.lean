/- What the functions of macs and stretched passes answer. -/
import Derived.Test.YthkgncgaemoppaaDoorDigLaws
namespace Go.Proofs.YthkgncgaemoppaaDoor.Sha
open Go.RowKit Go.Proofs.YthkgncgaemoppaaDoor.Mem

/-- A key's bytes, i of 64 put together with x. -/
def keyL (key : ByteArray) (x i : Nat) : List UInt8 := (List.range 64).map fun j => if j < i then UInt8.ofNat ((key.data.toList.getD j 0).toNat ^^^ x) else key.data.toList.getD j 0
theorem length_keyL (key : ByteArray) (x i : Nat) : (keyL key x i).length = 64 := by simp [keyL]
theorem keyL_start (key : ByteArray) (x : Nat) (h : key.size ≤ 64) : Lib.byteCells (keyL key x 0) = Lib.byteCells key.data.toList ++ List.replicate (64 - key.size) (.int .u8 0) := by
  have hl : key.data.toList.length = key.size := rfl
  apply List.ext_getElem?
  intro j
  by_cases h1 : j < key.size
  · rw [List.getElem?_append_left (by rw [length_byteCells]; omega)]
    simp [Lib.byteCells, keyL, show j < 64 by omega, h1]
  · rw [List.getElem?_append_right (by rw [length_byteCells]; omega), List.getElem?_replicate, length_byteCells]
    by_cases h2 : j < 64
    · rw [if_pos (by omega)]
      simp [Lib.byteCells, keyL, h2, h1]
    · rw [if_neg (by omega)]
      simp [Lib.byteCells, keyL, h2]
theorem keyL_cell (key : ByteArray) (x i : Nat) (hi : i < 64) : (Lib.byteCells (keyL key x i))[i]? = some (.int .u8 ((key.data.toList.getD i 0).toNat : Nat)) := by
  simp [Lib.byteCells, keyL, hi]
theorem keyL_set (key : ByteArray) (x i : Nat) (hi : i < 64) (hx : x < 256) : (Lib.byteCells (keyL key x i)).set i (.int .u8 (((key.data.toList.getD i 0).toNat ^^^ x : Nat) : Int)) = Lib.byteCells (keyL key x (i + 1)) := by
  apply List.ext_getElem?
  intro j
  by_cases e : i = j
  · subst e
    have hb : (key.data.toList.getD i 0).toNat ^^^ x < 256 := Nat.xor_lt_two_pow (n := 8) (byte_lt _) hx
    rw [List.getElem?_set_self (by rw [length_byteCells, length_keyL]; exact hi)]
    simp [Lib.byteCells, keyL, hi, Nat.mod_eq_of_lt hx]
  · rw [List.getElem?_set_ne e]
    by_cases h2 : j < 64
    · simp [Lib.byteCells, keyL, h2, show (j < i + 1) = (j < i) by simp; omega]
    · simp [Lib.byteCells, keyL, h2]
theorem keyL_end (key : ByteArray) (x : Nat) : (⟨(keyL key x 64).toArray⟩ : ByteArray) = padK key x := by
  have e : keyL key x 64 = (List.range 64).map fun i => UInt8.ofNat ((key.data.toList.getD i 0).toNat ^^^ x) := by
    unfold keyL
    apply List.map_congr_left
    intro j hj
    rw [if_pos (List.mem_range.1 hj)]
  rw [e]
  rfl
theorem xor8 {a b : Nat} (ha : a < 256) (hb : b < 256) : bits .xor .u8 (a : Int) (b : Int) = ((a ^^^ b : Nat) : Int) := u8_xor_nat a b ha hb

set_option maxHeartbeats 1000000 in
theorem specPad_any (key : ByteArray) (x : Nat) (w : World) (hk : key.size ≤ 64) (hx : x < 256) :
    Calls Tryd.prog 45 #[.string key, .int .u8 (x : Int)] w fun e w' => e = .returned (.string (padK key x)) ∧ Below w.heap.size w w' := by
  obtain ⟨W1, hmk, hg1, hb1, hz1⟩ := make_bytes (P := Tryd.prog) 22 5 Join.under Join.info8 64 (by omega) w
  obtain ⟨W2, hc2, hg2, hb2, hz2⟩ := copy_str (P := Tryd.prog) 22 9 3 5 Join.under Join.info8 W1 w.heap.size 0 64 64 key _ hg1 (by omega) (by simp; omega)
  have er : List.take 0 (List.replicate 64 (Value.int .u8 0)) ++ Lib.byteCells key.data.toList ++ List.drop (0 + key.size) (List.replicate 64 (Value.int .u8 0)) = Lib.byteCells (keyL key x 0) := by
    rw [keyL_start key x hk, List.drop_replicate]
    simp
  rw [er] at hg2
  have HG : Hid (HasRow W2 w.heap.size (Lib.byteCells (keyL key x 0)) 5) := hg2
  have HB : Hid (Below w.heap.size w W2) := hb1.trans hb2
  have hxi : (x : Int) < 256 := by omega
  simp at hmk
  clear hg1 hg2 hb1 hb2 er hz1 hz2
  go_enter Tryd.func45, Tryd.ntmps45
  go_wp2
  go_loopw [6] (fun i wr => ∃ k : Nat, k ≤ 64 ∧ i = .int .i64 k ∧ HasRow wr w.heap.size (Lib.byteCells (keyL key x k)) 5 ∧ Below w.heap.size w wr) (fun i _ => 64 - (intOf i).toNat)
  case atStart => exact ⟨0, by omega, rfl, HG.out, HB.out⟩
  case round =>
    clear HG HB
    obtain ⟨k, hk2, rfl, hrow, hbel⟩ := hrel
    by_cases hlt : k < 64
    · have hc := Mem.cell_of_row hrow k
      rw [keyL_cell key x k hlt] at hc
      have hfz := Mem.frozen_of_row hrow k
      have hbl := byte_lt (key.data.toList.getD k 0)
      have hxr := xor8 hbl hx
      have HS : Hid (HasRow (wr.setCell ⟨w.heap.size, k, none⟩ (.int .u8 (((key.data.toList.getD k 0).toNat ^^^ x : Nat) : Int))) w.heap.size (Lib.byteCells (keyL key x (k + 1))) 5) := by
        unfold Hid
        rw [← keyL_set key x k hlt hx]
        exact row_set hrow _ _
      generalize (key.data.toList.getD k 0).toNat = y at *
      generalize y ^^^ x = z at *
      have j0 : (0 : Int) ≤ (k : Int) := by omega
      have j1 : (k : Int) < 64 := by omega
      clear hrow
      go_wp2
      go_roundw
      case rel => exact ⟨k + 1, by omega, by go_num, HS.out, hbel.setCell (p := ⟨w.heap.size, k, none⟩) (Nat.le_refl _) _⟩
      case measure => simp [intOf]; omega
    · have e : k = 64 := by omega
      subst e
      have hcv := text_of_row (P := Tryd.prog) 22 9 5 Join.under Join.under8 Join.underS wr w.heap.size 64 64 (keyL key x 64) [] (length_keyL _ _ _) (by simpa using hrow)
      rw [keyL_end] at hcv
      have HB2 : Hid _ := hbel
      clear hrow hbel
      go_wp2
      go_ret
      exact ⟨rfl, HB2.out⟩

/-- The mac of a key that has its length. -/
def macK (k text : ByteArray) : ByteArray := digB (padK k 92 ++ digB (padK k 54 ++ text))
theorem macB_eq (key text : ByteArray) : macB key text = macK (keyOf key) text := rfl

set_option maxHeartbeats 1000000 in
theorem specMacK (key text k' : ByteArray) (w : World) (hk : key.size ≤ 64) (e : key = k') (ht : text.size ≤ 8100) :
    Calls Tryd.prog 37 #[.string key, .string text] w fun e w' => e = .returned (.string (macK k' text)) ∧ Below w.heap.size w w' := by
  subst e
  have z1 := size_padK key 54
  have z2 := size_padK key 92
  have z3 := size_digB (padK key 54 ++ text)
  have K1 : Hid (∀ W, Calls Tryd.prog 45 #[.string key, .int .u8 54] W fun e w' => e = .returned (.string (padK key 54)) ∧ Below W.heap.size W w') := fun W => specPad_any key 54 W hk (by omega)
  have K2 : Hid (∀ W, Calls Tryd.prog 45 #[.string key, .int .u8 92] W fun e w' => e = .returned (.string (padK key 92)) ∧ Below W.heap.size W w') := fun W => specPad_any key 92 W hk (by omega)
  have K3 : Hid (∀ W, Calls Tryd.prog 36 #[.string (padK key 54 ++ text)] W fun e w' => e = .returned (.string (digB (padK key 54 ++ text))) ∧ Below W.heap.size W w') := fun W => specAll_any _ W (by rw [ByteArray.size_append]; omega)
  have K4 : Hid (∀ W, Calls Tryd.prog 36 #[.string (padK key 92 ++ digB (padK key 54 ++ text))] W fun e w' => e = .returned (.string (macK key text)) ∧ Below W.heap.size W w') := fun W => specAll_any _ W (by rw [ByteArray.size_append]; omega)
  generalize macK key text = M at *
  generalize padK key 54 = p1 at *
  generalize padK key 92 = p2 at *
  generalize digB (p1 ++ text) = D1 at *
  go_enter Tryd.func37, Tryd.ntmps37
  go_wp2_with (first
    | (go_at_call_of 45 (Value.int IntKind.u8 92); refine (K2.out _).mono ?_; rintro e w1 ⟨rfl, hb1⟩)
    | (go_at_call_of 45 (Value.int IntKind.u8 54); refine (K1.out _).mono ?_; rintro e w2 ⟨rfl, hb2⟩)
    | (go_at_call_of 36 (Value.string (p1 ++ text)); refine (K3.out _).mono ?_; rintro e w3 ⟨rfl, hb3⟩)
    | (go_at_call_of 36 (Value.string (p2 ++ D1)); refine (K4.out _).mono ?_; rintro e w4 ⟨rfl, hb4⟩))
  go_ret
  exact ⟨rfl, bstep (bstep (bstep hb1 hb2) hb3) hb4⟩

set_option maxHeartbeats 1000000 in
theorem specMacL (key text k' : ByteArray) (w : World) (hk : 64 < key.size) (hk2 : key.size ≤ 8000) (e : digB key = k') (ht : text.size ≤ 8100) :
    Calls Tryd.prog 37 #[.string key, .string text] w fun e w' => e = .returned (.string (macK k' text)) ∧ Below w.heap.size w w' := by
  have hz : k'.size ≤ 64 := by rw [← e, size_digB]; omega
  have z1 := size_padK k' 54
  have z2 := size_padK k' 92
  have z3 := size_digB (padK k' 54 ++ text)
  have K0 : Hid (∀ W, Calls Tryd.prog 36 #[.string key] W fun e w' => e = .returned (.string k') ∧ Below W.heap.size W w') := fun W => by rw [← e]; exact specAll_any key W (by omega)
  have K1 : Hid (∀ W, Calls Tryd.prog 45 #[.string k', .int .u8 54] W fun e w' => e = .returned (.string (padK k' 54)) ∧ Below W.heap.size W w') := fun W => specPad_any k' 54 W hz (by omega)
  have K2 : Hid (∀ W, Calls Tryd.prog 45 #[.string k', .int .u8 92] W fun e w' => e = .returned (.string (padK k' 92)) ∧ Below W.heap.size W w') := fun W => specPad_any k' 92 W hz (by omega)
  have K3 : Hid (∀ W, Calls Tryd.prog 36 #[.string (padK k' 54 ++ text)] W fun e w' => e = .returned (.string (digB (padK k' 54 ++ text))) ∧ Below W.heap.size W w') := fun W => specAll_any _ W (by rw [ByteArray.size_append]; omega)
  have K4 : Hid (∀ W, Calls Tryd.prog 36 #[.string (padK k' 92 ++ digB (padK k' 54 ++ text))] W fun e w' => e = .returned (.string (macK k' text)) ∧ Below W.heap.size W w') := fun W => specAll_any _ W (by rw [ByteArray.size_append]; omega)
  clear e
  generalize macK k' text = M at *
  generalize padK k' 54 = p1 at *
  generalize padK k' 92 = p2 at *
  generalize digB (p1 ++ text) = D1 at *
  go_enter Tryd.func37, Tryd.ntmps37
  go_wp2_with (first
    | (go_at_call_of 36 (Value.string key); refine (K0.out _).mono ?_; rintro e w0 ⟨rfl, hb0⟩)
    | (go_at_call_of 45 (Value.int IntKind.u8 92); refine (K2.out _).mono ?_; rintro e w1 ⟨rfl, hb1⟩)
    | (go_at_call_of 45 (Value.int IntKind.u8 54); refine (K1.out _).mono ?_; rintro e w2 ⟨rfl, hb2⟩)
    | (go_at_call_of 36 (Value.string (p1 ++ text)); refine (K3.out _).mono ?_; rintro e w3 ⟨rfl, hb3⟩)
    | (go_at_call_of 36 (Value.string (p2 ++ D1)); refine (K4.out _).mono ?_; rintro e w4 ⟨rfl, hb4⟩))
  go_ret
  exact ⟨rfl, bstep (bstep (bstep (bstep hb0 hb1) hb2) hb3) hb4⟩

theorem specMac0_any (key text : ByteArray) (w : World) (hk : key.size ≤ 8000) (ht : text.size ≤ 8100) :
    Calls Tryd.prog 37 #[.string key, .string text] w fun e w' => e = .returned (.string (macB key text)) ∧ Below w.heap.size w w' := by
  rw [macB_eq]
  by_cases h : key.size ≤ 64
  · exact specMacK key text _ w h (by unfold keyOf; rw [if_pos h]) ht
  · exact specMacL key text _ w (by omega) hk (by unfold keyOf; rw [if_neg h]) ht

def macS (key text : ByteArray) : ByteArray := if key.size ≤ 8000 ∧ text.size ≤ 8000 then macB key text else ByteArray.empty
end Go.Proofs.YthkgncgaemoppaaDoor.Sha
