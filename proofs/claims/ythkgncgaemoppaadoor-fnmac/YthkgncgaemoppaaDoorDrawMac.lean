/- What is drawn for FnMac, and its own padding. -/
import Derived.Test.YthkgncgaemoppaaDoorSource
import Derived.Test.YthkgncgaemoppaaDoorStretchLaws
import Derived.Deep.RegionWith
namespace Go.Proofs.YthkgncgaemoppaaDoor.Sha
open Go.RowKit Go.Proofs.YthkgncgaemoppaaDoor.Mem

set_option maxHeartbeats 1000000 in
theorem lwPad_any (key : ByteArray) (x : Nat) (w : World) (hk : key.size ≤ 64) (hx : x < 256) :
    Calls Tryd.prog 15 #[.string key, .int .u8 (x : Int)] w fun e w' => e = .returned (.string (padK key x)) ∧ Below w.heap.size w w' := by
  obtain ⟨W1, hmk, hg1, hb1, hz1⟩ := make_bytes (P := Tryd.prog) 22 5 Join.under Join.info8 64 (by omega) w
  obtain ⟨W2, hc2, hg2, hb2, hz2⟩ := copy_str (P := Tryd.prog) 22 9 3 5 Join.under Join.info8 W1 w.heap.size 0 64 64 key _ hg1 (by omega) (by simp; omega)
  have er : List.take 0 (List.replicate 64 (Value.int .u8 0)) ++ Lib.byteCells key.data.toList ++ List.drop (0 + key.size) (List.replicate 64 (Value.int .u8 0)) = Lib.byteCells (keyL key x 0) := by
    rw [keyL_start key x hk, List.drop_replicate]
    simp
  rw [er] at hg2
  have HG : Hid (HasRow W2 w.heap.size (Lib.byteCells (keyL key x 0)) 5) := hg2
  have HB : Hid (Below w.heap.size w W2) := hb1.trans hb2
  have hxi : (x : Int) < 256 := by omega
  simp at hmk
  clear hg1 hg2 hb1 hb2 er hz1 hz2
  go_enter Tryd.func15, Tryd.ntmps15
  go_wp2
  go_loopw [6] (fun i wr => ∃ k : Nat, k ≤ 64 ∧ i = .int .i64 k ∧ HasRow wr w.heap.size (Lib.byteCells (keyL key x k)) 5 ∧ Below w.heap.size w wr) (fun i _ => 64 - (intOf i).toNat)
  case atStart => exact ⟨0, by omega, rfl, HG.out, HB.out⟩
  case round =>
    clear HG HB
    obtain ⟨k, hk2, rfl, hrow, hbel⟩ := hrel
    by_cases hlt : k < 64
    · have hc := Mem.cell_of_row hrow k
      rw [keyL_cell key x k hlt] at hc
      have hfz := Mem.frozen_of_row hrow k
      have hbl := byte_lt (key.data.toList.getD k 0)
      have hxr := xor8 hbl hx
      have HS : Hid (HasRow (wr.setCell ⟨w.heap.size, k, none⟩ (.int .u8 (((key.data.toList.getD k 0).toNat ^^^ x : Nat) : Int))) w.heap.size (Lib.byteCells (keyL key x (k + 1))) 5) := by
        unfold Hid
        rw [← keyL_set key x k hlt hx]
        exact row_set hrow _ _
      generalize (key.data.toList.getD k 0).toNat = y at *
      generalize y ^^^ x = z at *
      have j0 : (0 : Int) ≤ (k : Int) := by omega
      have j1 : (k : Int) < 64 := by omega
      clear hrow
      go_wp2
      go_roundw
      case rel => exact ⟨k + 1, by omega, by go_num, HS.out, hbel.setCell (p := ⟨w.heap.size, k, none⟩) (Nat.le_refl _) _⟩
      case measure => simp [intOf]; omega
    · have e : k = 64 := by omega
      subst e
      have hcv := text_of_row (P := Tryd.prog) 22 9 5 Join.under Join.under8 Join.underS wr w.heap.size 64 64 (keyL key x 64) [] (length_keyL _ _ _) (by simpa using hrow)
      rw [keyL_end] at hcv
      have HB2 : Hid _ := hbel
      clear hrow hbel
      go_wp2
      go_ret
      exact ⟨rfl, HB2.out⟩
end Go.Proofs.YthkgncgaemoppaaDoor.Sha
namespace Go.Proofs.YthkgncgaemoppaaDoor.Draw
open Go.RowKit Go.Proofs.YthkgncgaemoppaaDoor.Mem

set_option maxRecDepth 100000 in
set_option maxHeartbeats 1000000 in
theorem drawDigest_any (W : World) (a : Option Addr) (len cap : Nat) (zs : List Int) (h : IsRow W a len cap zs) :
    Calls Tryd.prog 17 #[.slice a len cap] W fun e W' => ∃ t : ByteArray, e = .returned (.string t) ∧ t.size ≤ 200 ∧ Below W.heap.size W W' := by
  have HIN : Hid (IsRow W a len cap zs) := h
  clear h
  go_enter Tryd.func17, Tryd.ntmps17
  go_wp2_with fail
  refine (source_any W a len cap zs HIN.out).mono ?_
  rintro e w1 ⟨rfl, hs1, hb1⟩
  have HS1 : Hid (Src w1 W.heap.size a len cap zs) := hs1
  clear hs1
  go_wp2_with fail
  refine (n_any w1 W.heap.size a len cap zs 200 HS1.out (by omega)).mono ?_
  rintro e w3 ⟨v, rfl, hv, hs3, hg3⟩
  have HS3 : Hid (Src w3 W.heap.size a len cap zs) := hs3
  have hb3 := below_grown hb1 hg3 (Nat.le_refl _)
  obtain ⟨m, rfl⟩ := Int.eq_ofNat_of_zero_le hv.1
  have hm : (m : Int) < 200 := hv.2.1 (by omega)
  clear hs3 hg3 hb1 HS1 hv
  go_wp2_with fail
  refine (bytes_any w3 W.heap.size a len cap zs m HS3.out (by omega)).mono ?_
  rintro e w4 ⟨t, rfl, ht, hs4, hg4⟩
  have hb4 := below_grown hb3 hg4 (Nat.le_refl _)
  have HT : Hid (t.size = m) := ht
  clear hs4 hg4 hb3 HS3 ht
  go_wp2
  go_ret
  exact ⟨t, rfl, by have := HT.out; omega, hb4⟩

set_option maxRecDepth 100000 in
set_option maxHeartbeats 1000000 in
theorem drawMac_any (W : World) (a : Option Addr) (len cap : Nat) (zs : List Int) (h : IsRow W a len cap zs) :
    Calls Tryd.prog 13 #[.slice a len cap] W fun e W' => ∃ k t : ByteArray, e = .returned (.tuple #[.string k, .string t]) ∧ k.size ≤ 65 ∧ t.size ≤ 100 ∧ Below W.heap.size W W' := by
  have HIN : Hid (IsRow W a len cap zs) := h
  clear h
  go_enter Tryd.func13, Tryd.ntmps13
  go_wp2_with fail
  refine (source_any W a len cap zs HIN.out).mono ?_
  rintro e w1 ⟨rfl, hs1, hb1⟩
  have HS1 : Hid (Src w1 W.heap.size a len cap zs) := hs1
  clear hs1
  go_wp2_with fail
  refine (n_any w1 W.heap.size a len cap zs 20 HS1.out (by omega)).mono ?_
  rintro e w3 ⟨v, rfl, hv, hs3, hg3⟩
  have HS3 : Hid (Src w3 W.heap.size a len cap zs) := hs3
  have hb3 := below_grown hb1 hg3 (Nat.le_refl _)
  obtain ⟨m, rfl⟩ := Int.eq_ofNat_of_zero_le hv.1
  have hm : (m : Int) < 20 := hv.2.1 (by omega)
  clear hs3 hg3 hb1 HS1 hv
  go_wp2_with fail
  refine (bytes_any w3 W.heap.size a len cap zs m HS3.out (by omega)).mono ?_
  rintro e w4 ⟨k, rfl, hk, hs4, hg4⟩
  have HS4 : Hid (Src w4 W.heap.size a len cap zs) := hs4
  have hb4 := below_grown hb3 hg4 (Nat.le_refl _)
  have HKZ : Hid (k.size ≤ 65) := by show _ ≤ _; omega
  clear hs4 hg4 hb3 HS3 hk
  go_wp2_with fail
  refine (one_any w4 W.heap.size a len cap zs 6 HS4.out (by omega)).mono ?_
  rintro e w5 ⟨b, rfl, hs5, hg5⟩
  have HS5 : Hid (Src w5 W.heap.size a len cap zs) := hs5
  have hb5 := below_grown hb4 hg5 (Nat.le_refl _)
  clear hs5 hg5 hb4 HS4
  cases b
  · go_wp2_with fail
    refine (n_any w5 W.heap.size a len cap zs 100 HS5.out (by omega)).mono ?_
    rintro e w6 ⟨v, rfl, hv, hs6, hg6⟩
    have HS6 : Hid (Src w6 W.heap.size a len cap zs) := hs6
    have hb6 := below_grown hb5 hg6 (Nat.le_refl _)
    obtain ⟨m2, rfl⟩ := Int.eq_ofNat_of_zero_le hv.1
    have hm2 : (m2 : Int) < 100 := hv.2.1 (by omega)
    clear hs6 hg6 hb5 HS5 hv
    go_wp2_with fail
    refine (bytes_any w6 W.heap.size a len cap zs m2 HS6.out (by omega)).mono ?_
    rintro e w7 ⟨t, rfl, ht, hs7, hg7⟩
    have hb7 := below_grown hb6 hg7 (Nat.le_refl _)
    have HT : Hid (t.size ≤ 100) := by show _ ≤ _; omega
    clear hs7 hg7 hb6 HS6 ht
    go_wp2
    go_ret2
    exact ⟨k, t, rfl, HKZ.out, HT.out, hb7⟩
  · go_wp2_with fail
    refine (n_any w5 W.heap.size a len cap zs 3 HS5.out (by omega)).mono ?_
    rintro e w6 ⟨v, rfl, hv, hs6, hg6⟩
    have hb6 := below_grown hb5 hg6 (Nat.le_refl _)
    have HS6 : Hid (Src w6 W.heap.size a len cap zs) := hs6
    have hgl := src_lt hs6
    obtain ⟨m2, rfl⟩ := Int.eq_ofNat_of_zero_le hv.1
    have hm2 : (m2 : Int) < 3 := hv.2.1 (by omega)
    clear hs6 hg6 hb5 HS5 hv
    obtain ⟨w7, hmk, hrow, hb7, hz7⟩ := make_bytes (P := Tryd.prog) 22 5 under info8 (63 + m2) (by omega) w6
    have hcv := zeros_text w7 w6.heap.size (63 + m2) hrow
    have e1 : ((63 + m2 : Nat) : Int) = 63 + (m2 : Int) := by omega
    rw [e1] at hmk
    have HS7 : Hid (Src w7 W.heap.size a len cap zs) := src_below HS6.out hb7 hgl
    have HB7 : Hid (Below W.heap.size W w7) := bstep hb6 hb7
    have HZK : Hid ((⟨(List.replicate (63 + m2) (0 : UInt8)).toArray⟩ : ByteArray).size ≤ 65) := by show (List.replicate (63 + m2) (0 : UInt8)).toArray.size ≤ 65; simp; omega
    clear hrow hz7 e1 hb7 hb6 HS6
    go_wp2_with fail
    refine (n_any w7 W.heap.size a len cap zs 100 HS7.out (by omega)).mono ?_
    rintro e w8 ⟨v, rfl, hv, hs8, hg8⟩
    have HS8 : Hid (Src w8 W.heap.size a len cap zs) := hs8
    have hb8 := below_grown HB7.out hg8 (Nat.le_refl _)
    obtain ⟨m3, rfl⟩ := Int.eq_ofNat_of_zero_le hv.1
    have hm3 : (m3 : Int) < 100 := hv.2.1 (by omega)
    clear hs8 hg8 HB7 HS7 hv hmk hcv
    go_wp2_with fail
    refine (bytes_any w8 W.heap.size a len cap zs m3 HS8.out (by omega)).mono ?_
    rintro e w9 ⟨t, rfl, ht, hs9, hg9⟩
    have hb9 := below_grown hb8 hg9 (Nat.le_refl _)
    have HT : Hid (t.size ≤ 100) := by show _ ≤ _; omega
    clear hs9 hg9 hb8 HS8 ht
    go_wp2
    go_ret2
    exact ⟨_, t, rfl, HZK.out, HT.out, hb9⟩

/-- The five numbers that are drawn from. -/
def cV (v : Int) (m : Nat) : Int := [0, 1, 100, 101, v].getD m 0
theorem cV_row (W : World) (v : Int) (m : Nat) (hm : m < 5) (T : TypeId) : (W.alloc (.cells #[.int .i64 0, .int .i64 1, .int .i64 100, .int .i64 101, .int .i64 v] T)).cell? ⟨W.heap.size, m, none⟩ = some (.int .i64 (cV v m)) := by
  match m, hm with
  | 0, _ => simp [cV]
  | 1, _ => simp [cV]
  | 2, _ => simp [cV]
  | 3, _ => simp [cV]
  | 4, _ => simp [cV]
theorem cV_arr (v : Int) (m : Nat) (hm : m < 5) : (#[.int .i64 0, .int .i64 1, .int .i64 100, .int .i64 101, .int .i64 v] : Array Value)[m]? = some (.int .i64 (cV v m)) := by
  match m, hm with
  | 0, _ => rfl
  | 1, _ => rfl
  | 2, _ => rfl
  | 3, _ => rfl
  | 4, _ => rfl
theorem cV_lst (v : Int) (m : Nat) (hm : m < 5) : ([.int .i64 0, .int .i64 1, .int .i64 100, .int .i64 101, .int .i64 v] : List Value)[m]? = some (.int .i64 (cV v m)) := by
  match m, hm with
  | 0, _ => rfl
  | 1, _ => rfl
  | 2, _ => rfl
  | 3, _ => rfl
  | 4, _ => rfl
theorem cV_get (v : Int) (m : Nat) (h : m < ([.int .i64 0, .int .i64 1, .int .i64 100, .int .i64 101, .int .i64 v] : List Value).length) : ([.int .i64 0, .int .i64 1, .int .i64 100, .int .i64 101, .int .i64 v] : List Value)[m]'h = .int .i64 (cV v m) := by
  have e := cV_lst v m h
  rw [List.getElem?_eq_getElem h] at e
  exact Option.some.inj e
theorem five_kept {W w' : World} {g m : Nat} {v : Int} {T : TypeId} (hg : (W.alloc (.cells #[.int .i64 0, .int .i64 1, .int .i64 100, .int .i64 101, .int .i64 v] T)).grownBy w' (some g)) (hl : g ≠ W.heap.size) (hm : m < 5) : w'.cell? ⟨W.heap.size, m, none⟩ = some (.int .i64 (cV v m)) := by
  have hb := hg.block W.heap.size (by simp) (by simp; omega)
  rw [World.cell?_of_block (w := W.alloc _) (a := ⟨W.heap.size, m, none⟩) hb]
  exact cV_row W v m hm T
theorem cV_bd {v : Int} (h1 : -9223372036854775808 ≤ v) (h2 : v ≤ 9223372036854775807) (m : Nat) : -9223372036854775808 ≤ cV v m ∧ cV v m ≤ 9223372036854775807 := by
  match m with
  | 0 => simp [cV]
  | 1 => simp [cV]
  | 2 => simp [cV]
  | 3 => simp [cV]
  | 4 => exact ⟨h1, h2⟩
  | m + 5 => simp [cV]

set_option maxRecDepth 100000 in
set_option maxHeartbeats 4000000 in
theorem drawStretch_any (W : World) (a : Option Addr) (len cap : Nat) (zs : List Int) (h : IsRow W a len cap zs) :
    Calls Tryd.prog 18 #[.slice a len cap] W fun e W' => ∃ (t : ByteArray) (n : Int), e = .returned (.tuple #[.string t, .int .i64 n]) ∧ t.size ≤ 9 ∧ -9223372036854775808 ≤ n ∧ n ≤ 9223372036854775807 ∧ Below W.heap.size W W' := by
  have HIN : Hid (IsRow W a len cap zs) := h
  clear h
  go_enter Tryd.func18, Tryd.ntmps18
  go_wp2_with fail
  refine (source_any W a len cap zs HIN.out).mono ?_
  rintro e w1 ⟨rfl, hs1, hb1⟩
  have HS1 : Hid (Src w1 W.heap.size a len cap zs) := hs1
  clear hs1
  go_wp2_with fail
  refine (n_any w1 W.heap.size a len cap zs 9 HS1.out (by omega)).mono ?_
  rintro e w3 ⟨v, rfl, hv, hs3, hg3⟩
  have HS3 : Hid (Src w3 W.heap.size a len cap zs) := hs3
  have hb3 := below_grown hb1 hg3 (Nat.le_refl _)
  obtain ⟨m, rfl⟩ := Int.eq_ofNat_of_zero_le hv.1
  have hm : (m : Int) < 9 := hv.2.1 (by omega)
  clear hs3 hg3 hb1 HS1 hv
  go_wp2_with fail
  refine (bytes_any w3 W.heap.size a len cap zs m HS3.out (by omega)).mono ?_
  rintro e w4 ⟨t, rfl, ht, hs4, hg4⟩
  have HS4 : Hid (Src w4 W.heap.size a len cap zs) := hs4
  have hb4 := below_grown hb3 hg4 (Nat.le_refl _)
  have HTZ : Hid (t.size ≤ 9) := by show _ ≤ _; omega
  clear hs4 hg4 hb3 HS3 ht
  go_wp2_with fail
  refine (one_any w4 W.heap.size a len cap zs 6 HS4.out (by omega)).mono ?_
  rintro e w5 ⟨b, rfl, hs5, hg5⟩
  have HS5 : Hid (Src w5 W.heap.size a len cap zs) := hs5
  have hb5 := below_grown hb4 hg5 (Nat.le_refl _)
  clear hs5 hg5 hb4 HS4
  cases b
  · go_wp2_with fail
    refine (n_any w5 W.heap.size a len cap zs 9 HS5.out (by omega)).mono ?_
    rintro e w6 ⟨v, rfl, hv, hs6, hg6⟩
    have hb6 := below_grown hb5 hg6 (Nat.le_refl _)
    obtain ⟨m2, rfl⟩ := Int.eq_ofNat_of_zero_le hv.1
    have hm2 : (m2 : Int) < 9 := hv.2.1 (by omega)
    clear hs6 hg6 hb5 HS5 hv
    go_wp2
    go_ret2
    exact ⟨t, 1 + (m2 : Int), rfl, HTZ.out, by omega, by omega, hb6⟩
  · have HB5 : Hid (Below W.heap.size W w5) := hb5
    clear hb5
    go_wp2_with fail
    go_region_with (first
      | (go_at_call 35; refine (edge_any _ W.heap.size a len cap zs (src_drew HS5.out)).mono ?_; rintro e w6 ⟨ve, rfl, hv1, hv2, hs6, hg6⟩; have HS6 : Hid (Src w6 W.heap.size a len cap zs) := hs6; have HB6 : Hid (Below W.heap.size W w6) := below_grown HB5.out.drew hg6 (Nat.le_refl _); have HVE : Hid (-9223372036854775808 ≤ ve ∧ ve ≤ 9223372036854775807) := ⟨hv1, hv2⟩; clear hs6 hg6 hv1 hv2)
      | (go_at_call 30; refine (n_any _ W.heap.size a len cap zs 5 (src_below HS6.out ((Below.refl w6.heap.size w6).alloc (Nat.le_refl _) _) (src_lt HS6.out)) (by omega)).mono ?_; rintro e w7 ⟨v7, rfl, hv7, hs7, hg7⟩; obtain ⟨m7, rfl⟩ := Int.eq_ofNat_of_zero_le hv7.1; have hm7 : (m7 : Int) < 5 := hv7.2.1 (by omega); have hm8 : m7 < 5 := (by omega); have j7 : (0 : Int) ≤ (m7 : Int) := (by omega); have hc7 : w7.cell? ⟨w6.heap.size, m7, none⟩ = some (.int .i64 (cV ve m7)) := five_kept hg7 (by have := src_lt HS6.out; omega) hm8; have HB7 : Hid (Below W.heap.size W w7) := below_grown (HB6.out.alloc HB6.out.size _) hg7 (Nat.le_refl _); clear hs7 hg7 hv7)
      | (go_at_call 30; refine (n_any _ W.heap.size a len cap zs 5 HS6.out (by omega)).mono ?_; rintro e w7 ⟨v7, rfl, hv7, hs7, hg7⟩; obtain ⟨m7, rfl⟩ := Int.eq_ofNat_of_zero_le hv7.1; have hm7 : (m7 : Int) < 5 := hv7.2.1 (by omega); have hm8 : m7 < 5 := (by omega); have j7 : (0 : Int) ≤ (m7 : Int) := (by omega); have hc8 := cV_arr ve m7 hm8; have hc9 := cV_lst ve m7 hm8; have hc10 := cV_get ve m7; have HB7 : Hid (Below W.heap.size W w7) := below_grown HB6.out hg7 (Nat.le_refl _); clear hs7 hg7 hv7))
    all_goals go_wp2
    all_goals go_ret2
    all_goals first
      | exact ⟨t, _, rfl, HTZ.out, (cV_bd HVE.out.1 HVE.out.2 _).1, (cV_bd HVE.out.1 HVE.out.2 _).2, HB7.out⟩
      | exact ⟨t, _, rfl, HTZ.out, (cV_bd HVE.out.1 HVE.out.2 _).1, (cV_bd HVE.out.1 HVE.out.2 _).2, HB7.out.alloc HB7.out.size _⟩
end Go.Proofs.YthkgncgaemoppaaDoor.Draw
