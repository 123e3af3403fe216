/- What the model's draws of areas answer. -/
import Derived.Test.YtkigmpeanllimaaGreatDoorTextsG
import Derived.Test.YtkigmpeanllimaaGreatDoorDrawArea
namespace Go.Proofs.YtkigmpeanllimaaGreatDoor.Disk
open Go.RowKit Go.Proofs.YtkigmpeanllimaaGreatDoor.Mem Go.Proofs.YtkigmpeanllimaaGreatDoor.Harn Go.Proofs.YtkigmpeanllimaaGreatDoor.Draw

theorem room_le (ls : List ByteArray) (lp : List (Int × ByteArray)) : roomN ls lp ≤ 4096 := by
  by_cases h : rightB ls lp = true
  · rw [roomN_yes h]
    have := ((right_iff ls lp).1 h).2.1
    unfold halfN
    omega
  · rw [roomN_no (by simpa using h)]
    omega
theorem l04_any (W : World) (g : Nat) (a : Option Addr) (len cap : Nat) (zs : List Int) (h : Draw.Src W g a len cap zs) : Calls Tryz.prog 21 #[.pointer (some ⟨g, 0, none⟩)] W fun e W' => DiskDrawn W g (fun x => Draw.Src x g a len cap zs) e W' := l04Disk_any W g a len cap zs h (fun V hV => l03Disk_any V g a len cap zs hV)

set_option maxRecDepth 100000 in
set_option maxHeartbeats 2000000 in
theorem drawARead_any (W : World) (a : Option Addr) (len cap : Nat) (zs : List Int) (h : IsRow W a len cap zs) :
    Calls Tryz.prog 7 #[.slice a len cap] W fun e W' => ∃ us up ls lp, e = .returned (.agg #[us, up]) ∧ GotDisk W us up ls lp W' := by
  have hb0 : Below W.heap.size W (W.alloc (.cells #[.slice none 0 0, .slice none 0 0] 26)) := bself _
  have HIN : Hid _ := row_below h hb0
  have HB0 : Hid (Below W.heap.size W (W.alloc (.cells #[.slice none 0 0, .slice none 0 0] 26))) := hb0
  have HR0 : Hid (Box2 (W.alloc (.cells #[.slice none 0 0, .slice none 0 0] 26)) W.heap.size (.slice none 0 0) (.slice none 0 0)) := box2_at W _ _
  clear h hb0
  go_enter Tryz.func7, Tryz.ntmps7
  go_wp2_with fail
  refine (source_any _ a len cap zs HIN.out).mono ?_
  rintro e w1 ⟨rfl, hs1, hb1⟩
  simp at hs1
  have hz1 := src_lt hs1
  have HS1 : Hid _ := hs1
  have HB1 : Hid (Below W.heap.size W w1) := bT HB0.out hb1
  have HR1 : Hid _ := Box2.below HR0.out hb1 (by simp)
  clear hs1 hb1
  go_wp2_with fail
  refine (l04_any _ _ a len cap zs HS1.out).mono ?_
  rintro e w2 ⟨us, up, ls, lp, rfl, ho2, hl2, hs2, hg2⟩
  obtain ⟨va, ca, vb, cb, rfl, rfl⟩ := ho2.shape
  have h2 : Only (fun k => k = W.heap.size + 1) w1 w2 := Only.of_grown hg2 rfl
  have hz2 := h2.size
  have HB2 : Hid (Below W.heap.size W w2) := h2.below HB1.out (by omega) (fun k h1 h2 => by omega)
  obtain ⟨x0, x1, xf⟩ := Box2.cells (h2.row HR1.out (by omega) : Box2 w2 W.heap.size _ _)
  have HO2 : Hid _ := ho2
  have HL2 : Hid _ := hl2
  clear ho2 hl2 hs2 hg2 h2
  go_wp2_with fail
  exact bodyPost_ret (v := .agg #[.slice va ls.length ca, .slice vb lp.length cb]) (by simp [results, Tryz.results7, go_sem, x0, x1]) rfl ⟨_, _, ls, lp, rfl, got_mk HO2.out HL2.out HB2.out (by omega) (by omega)⟩

set_option maxRecDepth 100000 in
set_option maxHeartbeats 2000000 in
theorem drawAFormat_any (W : World) (a : Option Addr) (len cap : Nat) (zs : List Int) (h : IsRow W a len cap zs) :
    Calls Tryz.prog 6 #[.slice a len cap] W fun e W' => ∃ us up ls lp, e = .returned (.agg #[us, up]) ∧ GotDisk W us up ls lp W' := by
  have hb0 : Below W.heap.size W (W.alloc (.cells #[.slice none 0 0, .slice none 0 0] 26)) := bself _
  have HIN : Hid _ := row_below h hb0
  have HB0 : Hid (Below W.heap.size W (W.alloc (.cells #[.slice none 0 0, .slice none 0 0] 26))) := hb0
  have HR0 : Hid (Box2 (W.alloc (.cells #[.slice none 0 0, .slice none 0 0] 26)) W.heap.size (.slice none 0 0) (.slice none 0 0)) := box2_at W _ _
  clear h hb0
  go_enter Tryz.func6, Tryz.ntmps6
  go_wp2_with fail
  refine (source_any _ a len cap zs HIN.out).mono ?_
  rintro e w1 ⟨rfl, hs1, hb1⟩
  simp at hs1
  have hz1 := src_lt hs1
  have HS1 : Hid _ := hs1
  have HB1 : Hid (Below W.heap.size W w1) := bT HB0.out hb1
  have HR1 : Hid _ := Box2.below HR0.out hb1 (by simp)
  clear hs1 hb1
  go_wp2_with fail
  refine (one_any _ (W.heap.size + 1) a len cap zs 2 HS1.out (by omega)).mono ?_
  rintro e w9 ⟨b, rfl, hs9, hg9⟩
  have h9 : Only (fun k => k = W.heap.size + 1) w1 w9 := Only.of_grown hg9 rfl
  have hz9 := h9.size
  have HS9 : Hid _ := hs9
  have HB9 : Hid (Below W.heap.size W w9) := h9.below HB1.out (by omega) (fun k h1 h2 => by omega)
  have HR9 : Hid (Box2 w9 W.heap.size (.slice none 0 0) (.slice none 0 0)) := h9.row HR1.out (by omega)
  clear hs9 hg9 h9 HS1 HB1 HR1
  cases b
  · go_wp2_with fail
    refine (l04_any _ _ a len cap zs HS9.out).mono ?_
    rintro e w2 ⟨us, up, ls, lp, rfl, ho2, hl2, hs2, hg2⟩
    obtain ⟨va, ca, vb, cb, rfl, rfl⟩ := ho2.shape
    have h2 : Only (fun k => k = W.heap.size + 1) w9 w2 := Only.of_grown hg2 rfl
    have hz2 := h2.size
    have HB2 : Hid (Below W.heap.size W w2) := h2.below HB9.out (by omega) (fun k h1 h2 => by omega)
    obtain ⟨x0, x1, xf⟩ := Box2.cells (h2.row HR9.out (by omega) : Box2 w2 W.heap.size _ _)
    have HO2 : Hid _ := ho2
    have HL2 : Hid _ := hl2
    clear ho2 hl2 hs2 hg2 h2
    go_wp2_with fail
    exact bodyPost_ret (v := .agg #[.slice va ls.length ca, .slice vb lp.length cb]) (by simp [results, Tryz.results6, go_sem, x0, x1]) rfl ⟨_, _, ls, lp, rfl, got_mk HO2.out HL2.out HB2.out (by omega) (by omega)⟩
  · go_wp2_with fail
    refine (l03Disk_any _ _ a len cap zs HS9.out).mono ?_
    rintro e w2 ⟨us, up, ls, lp, rfl, ho2, hl2, hs2, hg2⟩
    obtain ⟨va, ca, vb, cb, rfl, rfl⟩ := ho2.shape
    have h2 : Only (fun k => k = W.heap.size + 1) w9 w2 := Only.of_grown hg2 rfl
    have hz2 := h2.size
    have HB2 : Hid (Below W.heap.size W w2) := h2.below HB9.out (by omega) (fun k h1 h2 => by omega)
    obtain ⟨x0, x1, xf⟩ := Box2.cells (h2.row HR9.out (by omega) : Box2 w2 W.heap.size _ _)
    have HO2 : Hid _ := ho2
    have HL2 : Hid _ := hl2
    clear ho2 hl2 hs2 hg2 h2
    go_wp2_with fail
    exact bodyPost_ret (v := .agg #[.slice va ls.length ca, .slice vb lp.length cb]) (by simp [results, Tryz.results6, go_sem, x0, x1]) rfl ⟨_, _, ls, lp, rfl, got_mk HO2.out HL2.out HB2.out (by omega) (by omega)⟩

set_option maxRecDepth 100000 in
set_option maxHeartbeats 2000000 in
theorem drawAPut_any (W : World) (a : Option Addr) (len cap : Nat) (zs : List Int) (h : IsRow W a len cap zs) :
    Calls Tryz.prog 5 #[.slice a len cap] W fun e W' => ∃ us up ls lp t x, e = .returned (.tuple #[.agg #[us, up], .string t, .int .i64 x]) ∧ GotDisk W us up ls lp W' ∧ t.size ≤ 8000 ∧ -1 ≤ x ∧ x < 7 := by
  have hb0 : Below W.heap.size W (W.alloc (.cells #[.slice none 0 0, .slice none 0 0] 26)) := bself _
  have HIN : Hid _ := row_below h hb0
  have HB0 : Hid (Below W.heap.size W (W.alloc (.cells #[.slice none 0 0, .slice none 0 0] 26))) := hb0
  have HR0 : Hid (Box2 (W.alloc (.cells #[.slice none 0 0, .slice none 0 0] 26)) W.heap.size (.slice none 0 0) (.slice none 0 0)) := box2_at W _ _
  clear h hb0
  go_enter Tryz.func5, Tryz.ntmps5
  go_wp2_with fail
  refine (source_any _ a len cap zs HIN.out).mono ?_
  rintro e w1 ⟨rfl, hs1, hb1⟩
  simp at hs1
  have hz1 := src_lt hs1
  have HS1 : Hid _ := hs1
  have HB1 : Hid (Below W.heap.size W w1) := bT HB0.out hb1
  have HR1 : Hid _ := Box2.below HR0.out hb1 (by simp)
  clear hs1 hb1
  go_wp2_with fail
  refine (l04_any _ _ a len cap zs HS1.out).mono ?_
  rintro e w2 ⟨us, up, ls, lp, rfl, ho2, hl2, hs2, hg2⟩
  obtain ⟨va, ca, vb, cb, rfl, rfl⟩ := ho2.shape
  have h2 : Only (fun k => k = W.heap.size + 1) w1 w2 := Only.of_grown hg2 rfl
  have hz2 := h2.size
  have hq2 : Below w2.heap.size w2 (w2.alloc (.cells #[.slice va ls.length ca, .slice vb lp.length cb] 26)) := bself _
  have HS2 : Hid _ := src_below hs2 hq2 (src_lt hs2)
  have HB2 : Hid (Below W.heap.size W (w2.alloc (.cells #[.slice va ls.length ca, .slice vb lp.length cb] 26))) := bA (h2.below HB1.out (by omega) (fun k h1 h2 => by omega)) _
  have HR2 : Hid _ := Box2.below (h2.row HR1.out (by omega)) hq2 (by omega)
  have HX2 : Hid (Box2 (w2.alloc (.cells #[.slice va ls.length ca, .slice vb lp.length cb] 26)) w2.heap.size (.slice va ls.length ca) (.slice vb lp.length cb)) := box2_at w2 _ _
  have HO2 : Hid _ := Own.below ho2 hq2
  have HL2 : Hid _ := hl2
  obtain ⟨WA, hWA⟩ : ∃ WA, WA = w2.alloc (.cells #[.slice va ls.length ca, .slice vb lp.length cb] 26) := ⟨_, rfl⟩
  have hzA : WA.heap.size = w2.heap.size + 1 := by rw [hWA]; simp
  rw [← hWA] at HS2 HB2 HR2 HX2 HO2
  clear ho2 hl2 hs2 hg2 h2 hq2 HS1 HB1 HR1
  go_wp2_with fail
  rw [← hWA]
  clear hWA
  refine (n_any _ (W.heap.size + 1) a len cap zs 90 HS2.out (by omega)).mono ?_
  rintro e w8 ⟨x, rfl, hx8, hs8, hg8⟩
  obtain ⟨n0, rfl⟩ := Int.eq_ofNat_of_zero_le hx8.1
  have hn9 : (n0 : Int) < 90 := hx8.2.1 (by omega)
  clear hx8
  have h8 : Only (fun k => k = W.heap.size + 1) WA w8 := Only.of_grown hg8 rfl
  have hz8 := h8.size
  have HS8 : Hid _ := hs8
  have HQ8 : Hid (Only (fun k => k = W.heap.size + 1) WA w8) := h8
  clear hs8 hg8 h8
  go_wp2_with fail
  refine (bytes_any _ (W.heap.size + 1) a len cap zs n0 HS8.out (by omega)).mono ?_
  rintro e w7 ⟨t, rfl, ht7, hs7, hg7⟩
  have HQ7 : Hid (Only (fun k => k = W.heap.size + 1) WA w7) := HQ8.out.trans (Only.of_grown hg7 rfl)
  have HS7 : Hid _ := hs7
  clear hs7 hg7 HQ8 HS8
  go_wp2_with fail
  refine (one_any _ (W.heap.size + 1) a len cap zs 8 HS7.out (by omega)).mono ?_
  rintro e w9 ⟨b, rfl, hs9, hg9⟩
  have h9 : Only (fun k => k = W.heap.size + 1) WA w9 := HQ7.out.trans (Only.of_grown hg9 rfl)
  have hz9 := h9.size
  have HS9 : Hid _ := hs9
  have HB9 : Hid (Below W.heap.size W w9) := h9.below HB2.out (by omega) (fun k h1 h2 => by omega)
  have HR9 : Hid (Box2 w9 W.heap.size (.slice none 0 0) (.slice none 0 0)) := h9.row HR2.out (by omega)
  have HX9 : Hid (Box2 w9 w2.heap.size (.slice va ls.length ca) (.slice vb lp.length cb)) := h9.row HX2.out (by omega)
  have HO9 : Hid _ := Own.only HO2.out h9 (fun k h1 h2 h3 => by omega)
  clear hs9 hg9 h9 HS2 HB2 HR2 HX2 HO2 HQ7 HS7
  obtain ⟨z0, z1, zf⟩ := Box2.cells HX9.out
  obtain ⟨q0, q1, qf⟩ := Box2.cells HR9.out
  cases b
  · have ht : t.size ≤ 8000 := by omega
    go_wp2_with fail
    go_region_held3 (fun w' => w'.cell? ⟨w2.heap.size, 0, none⟩ = some (.slice va ls.length ca) ∧ w'.cell? ⟨w2.heap.size, 1, none⟩ = some (.slice vb lp.length cb))
      (first
        | (go_split_ands; refine ⟨?_, ?_⟩ <;> (first | exact k0 | exact k1))
        | (go_keep; done)
        | (go_split_ands; refine ⟨?_, ?_⟩ <;> (rw [World.cell?_setCell_other _ _ _ _ (by intro e; injection e with e _ _; omega), World.cell?_setCell_other _ _ _ _ (by intro e; injection e with e _ _; omega)]; first | exact k0 | exact k1)))
      (first | (go_at_call 23; refine (n_any _ (W.heap.size + 1) a len cap zs 8 (src_drew HS9.out) (by omega)).mono ?_; rintro e w3 ⟨v, rfl, hv3, hs3, hg3⟩; have hv9 := hv3.2.1 (by omega); have hv0 := hv3.1; have hwr : IntKind.i64.wrap (v - 1) = v - 1 := IntWalk.i64_in _ ⟨by omega, by omega⟩; have h3 : Only (fun k => k = W.heap.size + 1) w9 w3 := Only.trans (Only.of_below _ (bD (Below.refl _ _))) (Only.of_grown hg3 rfl); have hz3 := h3.size; have k0 := (h3.cell (a := ⟨w2.heap.size, 0, none⟩) (by simp only; omega) (by simp only; omega)).trans z0; have k1 := (h3.cell (a := ⟨w2.heap.size, 1, none⟩) (by simp only; omega) (by simp only; omega)).trans z1; have HB3 : Hid (Below W.heap.size W w3) := h3.below HB9.out (by omega) (fun k h1 h2 => by omega); have HO3 : Hid _ := Own.only HO9.out h3 (fun k h1 h2 h3 => by omega); obtain ⟨x0, x1, xf⟩ := Box2.cells (h3.row HR9.out (by omega)); clear hs3 hg3 h3))
    go_wp2_with fail
    exact bodyPost_ret (v := .tuple #[.agg #[.slice va ls.length ca, .slice vb lp.length cb], .string t, .int .i64 (v - 1)]) (by simp [results, Tryz.results5, go_sem, x0, x1]) rfl ⟨_, _, ls, lp, t, v - 1, rfl, got_mk HO3.out HL2.out HB3.out (by omega) (by omega), ht, by omega, by omega⟩
  · clear ht7
    go_wp2_with fail
    refine (specRoom_any _ _ ls lp _ (Own.strs HO9.out) (Own.pends HO9.out) HL2.out.fits).mono ?_
    rintro e w4 ⟨rfl, hb4⟩
    have hrm := room_le ls lp
    generalize roomN ls lp = rm at *
    have HQ4 : Hid (Only (fun k => k = W.heap.size + 1) w9 w4) := Only.of_below _ hb4
    have HS4 : Hid _ := src_below HS9.out hb4 (src_lt HS9.out)
    clear hb4
    go_wp2_with fail
    refine (n_any _ (W.heap.size + 1) a len cap zs 2 HS4.out (by omega)).mono ?_
    rintro e w5 ⟨v, rfl, hv5, hs5, hg5⟩
    obtain ⟨mA, rfl⟩ := Int.eq_ofNat_of_zero_le hv5.1
    have hmA : (mA : Int) < 2 := hv5.2.1 (by omega)
    have HQ5 : Hid (Only (fun k => k = W.heap.size + 1) w9 w5) := HQ4.out.trans (Only.of_grown hg5 rfl)
    have HS5 : Hid _ := hs5
    clear hv5 hs5 hg5 HQ4 HS4
    obtain ⟨w6, hmk, hrow, hb6, hz6⟩ := make_bytes (P := Tryz.prog) 22 5 Draw.under Draw.info8 (rm + mA) (by omega) w5
    have hcv := zeros_text w6 w5.heap.size (rm + mA) hrow
    have e1 : ((rm + mA : Nat) : Int) = (rm : Int) + (mA : Int) := by omega
    rw [e1] at hmk
    have hwr : IntKind.i64.wrap ((rm : Int) + (mA : Int)) = (rm : Int) + (mA : Int) := IntWalk.i64_in _ ⟨by omega, by omega⟩
    have h6 : Only (fun k => k = W.heap.size + 1) w9 w6 := HQ5.out.trans (Only.of_below _ hb6)
    have hz6 := h6.size
    have HS6 : Hid _ := src_below HS5.out hb6 (src_lt HS5.out)
    have HB6 : Hid (Below W.heap.size W w6) := h6.below HB9.out (by omega) (fun k h1 h2 => by omega)
    have HR6 : Hid (Box2 w6 W.heap.size (.slice none 0 0) (.slice none 0 0)) := h6.row HR9.out (by omega)
    have HX6 : Hid (Box2 w6 w2.heap.size (.slice va ls.length ca) (.slice vb lp.length cb)) := h6.row HX9.out (by omega)
    have HO6 : Hid _ := Own.only HO9.out h6 (fun k h1 h2 h3 => by omega)
    obtain ⟨tz, htz0⟩ : ∃ tz : ByteArray, tz = ⟨(List.replicate (rm + mA) (0 : UInt8)).toArray⟩ := ⟨_, rfl⟩
    have htz : tz.size ≤ 8000 := by rw [htz0]; show (List.replicate (rm + mA) (0 : UInt8)).toArray.size ≤ 8000; simp; omega
    rw [← htz0] at hcv
    clear htz0
    clear hrow hb6 h6 e1 HQ5 HS5 HS9 HB9 HR9 HX9 HO9 z0 z1 zf q0 q1 qf
    obtain ⟨z0, z1, zf⟩ := Box2.cells HX6.out
    obtain ⟨q0, q1, qf⟩ := Box2.cells HR6.out
    go_wp2_with fail
    go_region_held3 (fun w' => w'.cell? ⟨w2.heap.size, 0, none⟩ = some (.slice va ls.length ca) ∧ w'.cell? ⟨w2.heap.size, 1, none⟩ = some (.slice vb lp.length cb))
      (first
        | (go_split_ands; refine ⟨?_, ?_⟩ <;> (first | exact k0 | exact k1))
        | (go_keep; done)
        | (go_split_ands; refine ⟨?_, ?_⟩ <;> (rw [World.cell?_setCell_other _ _ _ _ (by intro e; injection e with e _ _; omega), World.cell?_setCell_other _ _ _ _ (by intro e; injection e with e _ _; omega)]; first | exact k0 | exact k1)))
      (first | (go_at_call 23; refine (n_any _ (W.heap.size + 1) a len cap zs 8 (src_drew HS6.out) (by omega)).mono ?_; rintro e w3 ⟨v, rfl, hv3, hs3, hg3⟩; have hv9 := hv3.2.1 (by omega); have hv0 := hv3.1; have hwr : IntKind.i64.wrap (v - 1) = v - 1 := IntWalk.i64_in _ ⟨by omega, by omega⟩; have h3 : Only (fun k => k = W.heap.size + 1) w6 w3 := Only.trans (Only.of_below _ (bD (Below.refl _ _))) (Only.of_grown hg3 rfl); have hz3 := h3.size; have k0 := (h3.cell (a := ⟨w2.heap.size, 0, none⟩) (by simp only; omega) (by simp only; omega)).trans z0; have k1 := (h3.cell (a := ⟨w2.heap.size, 1, none⟩) (by simp only; omega) (by simp only; omega)).trans z1; have HB3 : Hid (Below W.heap.size W w3) := h3.below HB6.out (by omega) (fun k h1 h2 => by omega); have HO3 : Hid _ := Own.only HO6.out h3 (fun k h1 h2 h3 => by omega); obtain ⟨x0, x1, xf⟩ := Box2.cells (h3.row HR6.out (by omega)); clear hs3 hg3 h3))
    go_wp2_with fail
    exact bodyPost_ret (v := .tuple #[.agg #[.slice va ls.length ca, .slice vb lp.length cb], .string tz, .int .i64 (v - 1)]) (by simp [results, Tryz.results5, go_sem, x0, x1]) rfl ⟨_, _, ls, lp, tz, v - 1, rfl, got_mk HO3.out HL2.out HB3.out (by omega) (by omega), htz, by omega, by omega⟩
end Go.Proofs.YtkigmpeanllimaaGreatDoor.Disk
