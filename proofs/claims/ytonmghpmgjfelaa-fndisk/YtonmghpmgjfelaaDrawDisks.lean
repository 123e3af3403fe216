/- What the model's draws of disks answer. -/
import Derived.Test.YtonmghpmgjfelaaDrawDisk
import Derived.Test.YtonmghpmgjfelaaDrawKeep
namespace Go.Proofs.Ytonmghpmgjfelaa.Disk
open Go.RowKit Go.Proofs.Ytonmghpmgjfelaa.Mem Go.Proofs.Ytonmghpmgjfelaa.Harn Go.Proofs.Ytonmghpmgjfelaa.Draw

/-- A disk that was drawn: in memory that is new since W. -/
def GotDisk (W : World) (us up : Value) (ls : List ByteArray) (lp : List (Int × ByteArray)) (W' : World) : Prop := Own W' W.heap.size W'.heap.size us up ls lp ∧ Little ls lp ∧ Below W.heap.size W W'

theorem GotDisk.below {W W' W'' : World} {us up : Value} {ls : List ByteArray} {lp : List (Int × ByteArray)} (h : GotDisk W us up ls lp W') (hb : Below W'.heap.size W' W'') : GotDisk W us up ls lp W'' :=
  ⟨(h.1.below hb).wide (Nat.le_refl _) hb.size, h.2.1, bT h.2.2 hb⟩
theorem got_mk {W w3 : World} {lo hi : Nat} {us up v0 v1 : Value} {ls : List ByteArray} {lp : List (Int × ByteArray)} (ho : Own w3 lo hi us up ls lp) (hl : Little ls lp) (hb : Below W.heap.size W w3) (h1 : W.heap.size < lo) (h2 : hi ≤ w3.heap.size) : GotDisk W us up ls lp ((w3.setCell ⟨W.heap.size, 0, none⟩ v0).setCell ⟨W.heap.size, 1, none⟩ v1) :=
  ⟨(ho.only only_set2 (fun k h3 h4 h5 => by omega)).wide (by omega) (by simp; omega), hl, (hb.setCell (p := ⟨W.heap.size, 0, none⟩) (by simp) _).setCell (p := ⟨W.heap.size, 1, none⟩) (by simp) _⟩

set_option maxRecDepth 100000 in
set_option maxHeartbeats 2000000 in
theorem drawCrash_any (W : World) (a : Option Addr) (len cap : Nat) (zs : List Int) (h : IsRow W a len cap zs) :
    Calls Try.prog 6 #[.slice a len cap] W fun e W' => ∃ us up ls lp vk kp, e = .returned (.tuple #[.agg #[us, up], vk]) ∧ GotDisk W us up ls lp W' ∧ Ints W' vk kp ∧ kp.length ≤ 14 := by
  have hb0 : Below W.heap.size W (W.alloc (.cells #[.slice none 0 0, .slice none 0 0] 26)) := bself _
  have HIN : Hid _ := row_below h hb0
  have HB0 : Hid (Below W.heap.size W (W.alloc (.cells #[.slice none 0 0, .slice none 0 0] 26))) := hb0
  have HR0 : Hid (Box2 (W.alloc (.cells #[.slice none 0 0, .slice none 0 0] 26)) W.heap.size (.slice none 0 0) (.slice none 0 0)) := box2_at W _ _
  clear h hb0
  go_enter Try.func6, Try.ntmps6
  go_wp2_with fail
  refine (source_any _ a len cap zs HIN.out).mono ?_
  rintro e w1 ⟨rfl, hs1, hb1⟩
  simp at hs1
  have hz1 := src_lt hs1
  have HS1 : Hid _ := hs1
  have HB1 : Hid (Below W.heap.size W w1) := bT HB0.out hb1
  have HR1 : Hid _ := Box2.below HR0.out hb1 (by simp)
  clear hs1 hb1
  go_wp2_with fail
  refine (l03Disk_any _ _ a len cap zs HS1.out).mono ?_
  rintro e w2 ⟨us, up, ls, lp, rfl, ho2, hl2, hs2, hg2⟩
  obtain ⟨va, ca, vb, cb, rfl, rfl⟩ := ho2.shape
  have h2 : Only (fun k => k = W.heap.size + 1) w1 w2 := Only.of_grown hg2 rfl
  have hz2 := h2.size
  have hq2 : Below w2.heap.size w2 (w2.alloc (.cells #[.slice va ls.length ca, .slice vb lp.length cb] 26)) := bself _
  have HS2 : Hid _ := src_below hs2 hq2 (src_lt hs2)
  have HB2 : Hid (Below W.heap.size W (w2.alloc (.cells #[.slice va ls.length ca, .slice vb lp.length cb] 26))) := bA (h2.below HB1.out (by omega) (fun k h1 h2 => by omega)) _
  have HR2 : Hid _ := Box2.below (h2.row HR1.out (by omega)) hq2 (by omega)
  have HX2 : Hid (Box2 (w2.alloc (.cells #[.slice va ls.length ca, .slice vb lp.length cb] 26)) w2.heap.size (.slice va ls.length ca) (.slice vb lp.length cb)) := box2_at w2 _ _
  have HO2 : Hid _ := Own.below ho2 hq2
  have HL2 : Hid _ := hl2
  obtain ⟨WA, hWA⟩ : ∃ WA, WA = w2.alloc (.cells #[.slice va ls.length ca, .slice vb lp.length cb] 26) := ⟨_, rfl⟩
  have hzA : WA.heap.size = w2.heap.size + 1 := by rw [hWA]; simp
  rw [← hWA] at HS2 HB2 HR2 HX2 HO2
  clear ho2 hl2 hs2 hg2 h2 hq2 HS1 HB1 HR1
  obtain ⟨z0, z1, zf⟩ := Box2.cells HX2.out
  obtain ⟨q0, q1, qf⟩ := Box2.cells HR2.out
  go_wp2_with fail
  rw [← hWA]
  clear hWA
  go_region_held3 (fun w' => w'.cell? ⟨w2.heap.size, 0, none⟩ = some (.slice va ls.length ca) ∧ w'.cell? ⟨w2.heap.size, 1, none⟩ = some (.slice vb lp.length cb))
    (first
      | (go_split_ands; refine ⟨?_, ?_⟩ <;> (first | exact k0 | exact k1))
      | (go_keep; done)
      | (go_split_ands; refine ⟨?_, ?_⟩ <;> (rw [World.cell?_setCell_other _ _ _ _ (by intro e; injection e with e _ _; omega), World.cell?_setCell_other _ _ _ _ (by intro e; injection e with e _ _; omega)]; first | exact k0 | exact k1)))
    (first | (go_at_call 30; refine (l03Keep_any _ (W.heap.size + 1) a len cap zs (src_drew HS2.out)).mono ?_; rintro e w3 ⟨vk, kp, rfl, ho3, hk3, hs3, hq3⟩; have h3 : Only (fun k => k = W.heap.size + 1) WA w3 := Only.trans (Only.of_below _ (bD (Below.refl _ _))) hq3; have hz3 := h3.size; have k0 := (h3.cell (a := ⟨w2.heap.size, 0, none⟩) (by simp only; omega) (by simp only; omega)).trans z0; have k1 := (h3.cell (a := ⟨w2.heap.size, 1, none⟩) (by simp only; omega) (by simp only; omega)).trans z1; have HB3 : Hid (Below W.heap.size W w3) := h3.below HB2.out (by omega) (fun k h1 h2 => by omega); have HO3 : Hid _ := Own.only HO2.out h3 (fun k h1 h2 h3 => by omega); have HK3 : Hid _ := ho3; obtain ⟨x0, x1, xf⟩ := Box2.cells (h3.row HR2.out (by omega)); clear ho3 hs3 hq3 h3))
  go_wp2_with fail
  exact bodyPost_ret (v := .tuple #[.agg #[.slice va ls.length ca, .slice vb lp.length cb], vk]) (by simp [results, Try.results6, go_sem, x0, x1]) rfl ⟨_, _, ls, lp, vk, kp, rfl, got_mk HO3.out HL2.out HB3.out (by omega) (by omega), (OwnI.only HK3.out only_set2 (fun k h1 h2 => by simp at h1; omega)).ints, hk3⟩

set_option maxRecDepth 100000 in
set_option maxHeartbeats 2000000 in
theorem drawRead_any (W : World) (a : Option Addr) (len cap : Nat) (zs : List Int) (h : IsRow W a len cap zs) :
    Calls Try.prog 10 #[.slice a len cap] W fun e W' => ∃ us up ls lp x, e = .returned (.tuple #[.agg #[us, up], .int .i64 x]) ∧ GotDisk W us up ls lp W' ∧ (Lit.int .i64 x).wf = true := by
  have hb0 : Below W.heap.size W (W.alloc (.cells #[.slice none 0 0, .slice none 0 0] 26)) := bself _
  have HIN : Hid _ := row_below h hb0
  have HB0 : Hid (Below W.heap.size W (W.alloc (.cells #[.slice none 0 0, .slice none 0 0] 26))) := hb0
  have HR0 : Hid (Box2 (W.alloc (.cells #[.slice none 0 0, .slice none 0 0] 26)) W.heap.size (.slice none 0 0) (.slice none 0 0)) := box2_at W _ _
  clear h hb0
  go_enter Try.func10, Try.ntmps10
  go_wp2_with fail
  refine (source_any _ a len cap zs HIN.out).mono ?_
  rintro e w1 ⟨rfl, hs1, hb1⟩
  simp at hs1
  have hz1 := src_lt hs1
  have HS1 : Hid _ := hs1
  have HB1 : Hid (Below W.heap.size W w1) := bT HB0.out hb1
  have HR1 : Hid _ := Box2.below HR0.out hb1 (by simp)
  clear hs1 hb1
  go_wp2_with fail
  refine (l03Disk_any _ _ a len cap zs HS1.out).mono ?_
  rintro e w2 ⟨us, up, ls, lp, rfl, ho2, hl2, hs2, hg2⟩
  obtain ⟨va, ca, vb, cb, rfl, rfl⟩ := ho2.shape
  have h2 : Only (fun k => k = W.heap.size + 1) w1 w2 := Only.of_grown hg2 rfl
  have hz2 := h2.size
  have hq2 : Below w2.heap.size w2 (w2.alloc (.cells #[.slice va ls.length ca, .slice vb lp.length cb] 26)) := bself _
  have HS2 : Hid _ := src_below hs2 hq2 (src_lt hs2)
  have HB2 : Hid (Below W.heap.size W (w2.alloc (.cells #[.slice va ls.length ca, .slice vb lp.length cb] 26))) := bA (h2.below HB1.out (by omega) (fun k h1 h2 => by omega)) _
  have HR2 : Hid _ := Box2.below (h2.row HR1.out (by omega)) hq2 (by omega)
  have HX2 : Hid (Box2 (w2.alloc (.cells #[.slice va ls.length ca, .slice vb lp.length cb] 26)) w2.heap.size (.slice va ls.length ca) (.slice vb lp.length cb)) := box2_at w2 _ _
  have HO2 : Hid _ := Own.below ho2 hq2
  have HL2 : Hid _ := hl2
  obtain ⟨WA, hWA⟩ : ∃ WA, WA = w2.alloc (.cells #[.slice va ls.length ca, .slice vb lp.length cb] 26) := ⟨_, rfl⟩
  have hzA : WA.heap.size = w2.heap.size + 1 := by rw [hWA]; simp
  rw [← hWA] at HS2 HB2 HR2 HX2 HO2
  clear ho2 hl2 hs2 hg2 h2 hq2 HS1 HB1 HR1
  go_wp2_with fail
  rw [← hWA]
  clear hWA
  refine (one_any _ (W.heap.size + 1) a len cap zs 10 HS2.out (by omega)).mono ?_
  rintro e w9 ⟨b, rfl, hs9, hg9⟩
  have h9 : Only (fun k => k = W.heap.size + 1) WA w9 := Only.of_grown hg9 rfl
  have hz9 := h9.size
  have HS9 : Hid _ := hs9
  have HB9 : Hid (Below W.heap.size W w9) := h9.below HB2.out (by omega) (fun k h1 h2 => by omega)
  have HR9 : Hid (Box2 w9 W.heap.size (.slice none 0 0) (.slice none 0 0)) := h9.row HR2.out (by omega)
  have HX9 : Hid (Box2 w9 w2.heap.size (.slice va ls.length ca) (.slice vb lp.length cb)) := h9.row HX2.out (by omega)
  have HO9 : Hid _ := Own.only HO2.out h9 (fun k h1 h2 h3 => by omega)
  clear hs9 hg9 h9 HS2 HB2 HR2 HX2 HO2
  obtain ⟨z0, z1, zf⟩ := Box2.cells HX9.out
  obtain ⟨q0, q1, qf⟩ := Box2.cells HR9.out
  cases b
  · go_wp2_with fail
    go_region_held3 (fun w' => w'.cell? ⟨w2.heap.size, 0, none⟩ = some (.slice va ls.length ca) ∧ w'.cell? ⟨w2.heap.size, 1, none⟩ = some (.slice vb lp.length cb))
      (first
        | (go_split_ands; refine ⟨?_, ?_⟩ <;> (first | exact k0 | exact k1))
        | (go_keep; done)
        | (go_split_ands; refine ⟨?_, ?_⟩ <;> (rw [World.cell?_setCell_other _ _ _ _ (by intro e; injection e with e _ _; omega), World.cell?_setCell_other _ _ _ _ (by intro e; injection e with e _ _; omega)]; first | exact k0 | exact k1)))
      (first | (go_at_call 24; refine (n_any _ (W.heap.size + 1) a len cap zs 9 (src_drew HS9.out) (by omega)).mono ?_; rintro e w3 ⟨v, rfl, hv3, hs3, hg3⟩; have hv9 := hv3.2.1 (by omega); have hv0 := hv3.1; have h3 : Only (fun k => k = W.heap.size + 1) w9 w3 := Only.trans (Only.of_below _ (bD (Below.refl _ _))) (Only.of_grown hg3 rfl); have hz3 := h3.size; have k0 := (h3.cell (a := ⟨w2.heap.size, 0, none⟩) (by simp only; omega) (by simp only; omega)).trans z0; have k1 := (h3.cell (a := ⟨w2.heap.size, 1, none⟩) (by simp only; omega) (by simp only; omega)).trans z1; have HB3 : Hid (Below W.heap.size W w3) := h3.below HB9.out (by omega) (fun k h1 h2 => by omega); have HO3 : Hid _ := Own.only HO9.out h3 (fun k h1 h2 h3 => by omega); obtain ⟨x0, x1, xf⟩ := Box2.cells (h3.row HR9.out (by omega)); clear hs3 hg3 h3))
    go_wp2_with fail
    exact bodyPost_ret (v := .tuple #[.agg #[.slice va ls.length ca, .slice vb lp.length cb], .int .i64 v]) (by simp [results, Try.results10, go_sem, x0, x1]) rfl ⟨_, _, ls, lp, v, rfl, got_mk HO3.out HL2.out HB3.out (by omega) (by omega), WalkArith.wf_i64 (by omega)⟩
  · go_wp2_with fail
    go_region_held3 (fun w' => w'.cell? ⟨w2.heap.size, 0, none⟩ = some (.slice va ls.length ca) ∧ w'.cell? ⟨w2.heap.size, 1, none⟩ = some (.slice vb lp.length cb))
      (first
        | (go_split_ands; refine ⟨?_, ?_⟩ <;> (first | exact k0 | exact k1))
        | (go_keep; done)
        | (go_split_ands; refine ⟨?_, ?_⟩ <;> (rw [World.cell?_setCell_other _ _ _ _ (by intro e; injection e with e _ _; omega), World.cell?_setCell_other _ _ _ _ (by intro e; injection e with e _ _; omega)]; first | exact k0 | exact k1)))
      (first | (go_at_call 34; refine (edge_any _ (W.heap.size + 1) a len cap zs (src_drew HS9.out)).mono ?_; rintro e w3 ⟨v, rfl, hv0, hv9, hs3, hg3⟩; have h3 : Only (fun k => k = W.heap.size + 1) w9 w3 := Only.trans (Only.of_below _ (bD (Below.refl _ _))) (Only.of_grown hg3 rfl); have hz3 := h3.size; have k0 := (h3.cell (a := ⟨w2.heap.size, 0, none⟩) (by simp only; omega) (by simp only; omega)).trans z0; have k1 := (h3.cell (a := ⟨w2.heap.size, 1, none⟩) (by simp only; omega) (by simp only; omega)).trans z1; have HB3 : Hid (Below W.heap.size W w3) := h3.below HB9.out (by omega) (fun k h1 h2 => by omega); have HO3 : Hid _ := Own.only HO9.out h3 (fun k h1 h2 h3 => by omega); obtain ⟨x0, x1, xf⟩ := Box2.cells (h3.row HR9.out (by omega)); clear hs3 hg3 h3))
    go_wp2_with fail
    exact bodyPost_ret (v := .tuple #[.agg #[.slice va ls.length ca, .slice vb lp.length cb], .int .i64 v]) (by simp [results, Try.results10, go_sem, x0, x1]) rfl ⟨_, _, ls, lp, v, rfl, got_mk HO3.out HL2.out HB3.out (by omega) (by omega), WalkArith.wf_i64 (by omega)⟩

set_option maxRecDepth 100000 in
set_option maxHeartbeats 2000000 in
theorem drawWrite_any (W : World) (a : Option Addr) (len cap : Nat) (zs : List Int) (h : IsRow W a len cap zs) :
    Calls Try.prog 4 #[.slice a len cap] W fun e W' => ∃ us up ls lp x t, e = .returned (.tuple #[.agg #[us, up], .int .i64 x, .string t]) ∧ GotDisk W us up ls lp W' ∧ 0 ≤ x ∧ x < 9 ∧ t.size ≤ 65 := by
  have hb0 : Below W.heap.size W (W.alloc (.cells #[.slice none 0 0, .slice none 0 0] 26)) := bself _
  have HIN : Hid _ := row_below h hb0
  have HB0 : Hid (Below W.heap.size W (W.alloc (.cells #[.slice none 0 0, .slice none 0 0] 26))) := hb0
  have HR0 : Hid (Box2 (W.alloc (.cells #[.slice none 0 0, .slice none 0 0] 26)) W.heap.size (.slice none 0 0) (.slice none 0 0)) := box2_at W _ _
  clear h hb0
  go_enter Try.func4, Try.ntmps4
  go_wp2_with fail
  refine (source_any _ a len cap zs HIN.out).mono ?_
  rintro e w1 ⟨rfl, hs1, hb1⟩
  simp at hs1
  have hz1 := src_lt hs1
  have HS1 : Hid _ := hs1
  have HB1 : Hid (Below W.heap.size W w1) := bT HB0.out hb1
  have HR1 : Hid _ := Box2.below HR0.out hb1 (by simp)
  clear hs1 hb1
  go_wp2_with fail
  refine (l03Disk_any _ _ a len cap zs HS1.out).mono ?_
  rintro e w2 ⟨us, up, ls, lp, rfl, ho2, hl2, hs2, hg2⟩
  obtain ⟨va, ca, vb, cb, rfl, rfl⟩ := ho2.shape
  have h2 : Only (fun k => k = W.heap.size + 1) w1 w2 := Only.of_grown hg2 rfl
  have hz2 := h2.size
  have hq2 : Below w2.heap.size w2 (w2.alloc (.cells #[.slice va ls.length ca, .slice vb lp.length cb] 26)) := bself _
  have HS2 : Hid _ := src_below hs2 hq2 (src_lt hs2)
  have HB2 : Hid (Below W.heap.size W (w2.alloc (.cells #[.slice va ls.length ca, .slice vb lp.length cb] 26))) := bA (h2.below HB1.out (by omega) (fun k h1 h2 => by omega)) _
  have HR2 : Hid _ := Box2.below (h2.row HR1.out (by omega)) hq2 (by omega)
  have HX2 : Hid (Box2 (w2.alloc (.cells #[.slice va ls.length ca, .slice vb lp.length cb] 26)) w2.heap.size (.slice va ls.length ca) (.slice vb lp.length cb)) := box2_at w2 _ _
  have HO2 : Hid _ := Own.below ho2 hq2
  have HL2 : Hid _ := hl2
  obtain ⟨WA, hWA⟩ : ∃ WA, WA = w2.alloc (.cells #[.slice va ls.length ca, .slice vb lp.length cb] 26) := ⟨_, rfl⟩
  have hzA : WA.heap.size = w2.heap.size + 1 := by rw [hWA]; simp
  rw [← hWA] at HS2 HB2 HR2 HX2 HO2
  clear ho2 hl2 hs2 hg2 h2 hq2 HS1 HB1 HR1
  go_wp2_with fail
  rw [← hWA]
  clear hWA
  refine (n_any _ (W.heap.size + 1) a len cap zs 9 HS2.out (by omega)).mono ?_
  rintro e w8 ⟨x, rfl, hx8, hs8, hg8⟩
  have hx0 := hx8.1
  have hx9 := hx8.2.1 (by omega)
  clear hx8
  have h8 : Only (fun k => k = W.heap.size + 1) WA w8 := Only.of_grown hg8 rfl
  have hz8 := h8.size
  have HS8 : Hid _ := hs8
  have HB8 : Hid (Below W.heap.size W w8) := h8.below HB2.out (by omega) (fun k h1 h2 => by omega)
  have HR8 : Hid (Box2 w8 W.heap.size (.slice none 0 0) (.slice none 0 0)) := h8.row HR2.out (by omega)
  have HX8 : Hid (Box2 w8 w2.heap.size (.slice va ls.length ca) (.slice vb lp.length cb)) := h8.row HX2.out (by omega)
  have HO8 : Hid _ := Own.only HO2.out h8 (fun k h1 h2 h3 => by omega)
  clear hs8 hg8 h8 HS2 HB2 HR2 HX2 HO2
  go_wp2_with fail
  refine (one_any _ (W.heap.size + 1) a len cap zs 10 HS8.out (by omega)).mono ?_
  rintro e w9 ⟨b, rfl, hs9, hg9⟩
  have h9 : Only (fun k => k = W.heap.size + 1) w8 w9 := Only.of_grown hg9 rfl
  have hz9 := h9.size
  have HS9 : Hid _ := hs9
  have HB9 : Hid (Below W.heap.size W w9) := h9.below HB8.out (by omega) (fun k h1 h2 => by omega)
  have HR9 : Hid (Box2 w9 W.heap.size (.slice none 0 0) (.slice none 0 0)) := h9.row HR8.out (by omega)
  have HX9 : Hid (Box2 w9 w2.heap.size (.slice va ls.length ca) (.slice vb lp.length cb)) := h9.row HX8.out (by omega)
  have HO9 : Hid _ := Own.only HO8.out h9 (fun k h1 h2 h3 => by omega)
  clear hs9 hg9 h9 HS8 HB8 HR8 HX8 HO8
  obtain ⟨z0, z1, zf⟩ := Box2.cells HX9.out
  obtain ⟨q0, q1, qf⟩ := Box2.cells HR9.out
  cases b
  · go_wp2_with fail
    go_region_held3 (fun w' => w'.cell? ⟨w2.heap.size, 0, none⟩ = some (.slice va ls.length ca) ∧ w'.cell? ⟨w2.heap.size, 1, none⟩ = some (.slice vb lp.length cb))
      (first
        | (go_split_ands; refine ⟨?_, ?_⟩ <;> (first | exact k0 | exact k1))
        | (go_split_ands; refine ⟨?_, ?_⟩ <;> (first | exact j0 | exact j1))
        | (go_keep; done)
        | (go_split_ands; refine ⟨?_, ?_⟩ <;> (rw [World.cell?_setCell_other _ _ _ _ (by intro e; injection e with e _ _; omega), World.cell?_setCell_other _ _ _ _ (by intro e; injection e with e _ _; omega)]; first | exact k0 | exact k1)))
      (first
        | (go_at_call 24; refine (n_any _ (W.heap.size + 1) a len cap zs 5 (src_drew HS9.out) (by omega)).mono ?_; rintro e w4 ⟨v, rfl, hv4, hs4, hg4⟩; obtain ⟨n0, rfl⟩ := Int.eq_ofNat_of_zero_le hv4.1; have hn5 : (n0 : Int) < 5 := hv4.2.1 (by omega); have h4 : Only (fun k => k = W.heap.size + 1) w9 w4 := Only.trans (Only.of_below _ (bD (Below.refl _ _))) (Only.of_grown hg4 rfl); have hz4 := h4.size; have j0 := (h4.cell (a := ⟨w2.heap.size, 0, none⟩) (by simp only; omega) (by simp only; omega)).trans z0; have j1 := (h4.cell (a := ⟨w2.heap.size, 1, none⟩) (by simp only; omega) (by simp only; omega)).trans z1; have HS4 : Hid _ := hs4; have HQ4 : Hid _ := h4; clear hs4 hg4 h4 hv4)
        | (go_at_call 26; refine (bytes_any _ (W.heap.size + 1) a len cap zs n0 HS4.out (by omega)).mono ?_; rintro e w3 ⟨t, rfl, ht3, hs3, hg3⟩; have h3 : Only (fun k => k = W.heap.size + 1) w9 w3 := Only.trans HQ4.out (Only.of_grown hg3 rfl); have hz3 := h3.size; have k0 := (h3.cell (a := ⟨w2.heap.size, 0, none⟩) (by simp only; omega) (by simp only; omega)).trans z0; have k1 := (h3.cell (a := ⟨w2.heap.size, 1, none⟩) (by simp only; omega) (by simp only; omega)).trans z1; have HB3 : Hid (Below W.heap.size W w3) := h3.below HB9.out (by omega) (fun k h1 h2 => by omega); have HO3 : Hid _ := Own.only HO9.out h3 (fun k h1 h2 h3 => by omega); obtain ⟨x0, x1, xf⟩ := Box2.cells (h3.row HR9.out (by omega)); have hts : t.size ≤ 4 := (by omega); clear hs3 hg3 h3 ht3))
    go_wp2_with fail
    exact bodyPost_ret (v := .tuple #[.agg #[.slice va ls.length ca, .slice vb lp.length cb], .int .i64 x, .string t]) (by simp [results, Try.results4, go_sem, x0, x1]) rfl ⟨_, _, ls, lp, x, t, rfl, got_mk HO3.out HL2.out HB3.out (by omega) (by omega), hx0, hx9, by omega⟩
  · go_wp2_with fail
    go_region_with (first | (go_at_call 24; refine (n_any _ (W.heap.size + 1) a len cap zs 2 (src_drew HS9.out) (by omega)).mono ?_; rintro e wA ⟨v, rfl, hvA, hsA, hgA⟩; obtain ⟨mA, rfl⟩ := Int.eq_ofNat_of_zero_le hvA.1; have hmA : (mA : Int) < 2 := hvA.2.1 (by omega); have hqA : Only (fun k => k = W.heap.size + 1) w9 wA := Only.trans (Only.of_below _ (bD (Below.refl _ _))) (Only.of_grown hgA rfl); obtain ⟨w3, hmk, hrow, hbB, hzB⟩ := make_bytes (P := Try.prog) 22 5 Draw.under Draw.info8 (64 + mA) (by omega) wA; have hcv := zeros_text w3 wA.heap.size (64 + mA) hrow; have hzA0 := hqA.size; have hcv2 := zeros_text ((w3.setCell ⟨W.heap.size, 0, none⟩ (.slice va ls.length ca)).setCell ⟨W.heap.size, 1, none⟩ (.slice vb lp.length cb)) wA.heap.size (64 + mA) (Sha.row_other (Sha.row_other hrow _ _ (by simp; omega)) _ _ (by simp; omega)); have e1 : ((64 + mA : Nat) : Int) = 64 + (mA : Int) := (by omega); rw [e1] at hmk; have hwr : IntKind.i64.wrap (64 + (mA : Int)) = 64 + (mA : Int) := IntWalk.i64_in _ ⟨by omega, by omega⟩; have h3 : Only (fun k => k = W.heap.size + 1) w9 w3 := Only.trans hqA (Only.of_below _ hbB); have hzA := hqA.size; have hz3 := h3.size; have j0 := (hqA.cell (a := ⟨w2.heap.size, 0, none⟩) (by simp only; omega) (by simp only; omega)).trans z0; have j1 := (hqA.cell (a := ⟨w2.heap.size, 1, none⟩) (by simp only; omega) (by simp only; omega)).trans z1; have k0 := (h3.cell (a := ⟨w2.heap.size, 0, none⟩) (by simp only; omega) (by simp only; omega)).trans z0; have k1 := (h3.cell (a := ⟨w2.heap.size, 1, none⟩) (by simp only; omega) (by simp only; omega)).trans z1; have HB3 : Hid (Below W.heap.size W w3) := h3.below HB9.out (by omega) (fun k h1 h2 => by omega); have HO3 : Hid _ := Own.only HO9.out h3 (fun k h1 h2 h3 => by omega); obtain ⟨x0, x1, xf⟩ := Box2.cells (h3.row HR9.out (by omega)); obtain ⟨y0, y1, yf⟩ := Box2.cells (hqA.row HR9.out (by omega)); obtain ⟨w5, hmk5, hrow5, hb5, hz5⟩ := make_bytes (P := Try.prog) 22 5 Draw.under Draw.info8 (64 + mA) (by omega) ((wA.setCell ⟨W.heap.size, 0, none⟩ (.slice va ls.length ca)).setCell ⟨W.heap.size, 1, none⟩ (.slice vb lp.length cb)); simp at hrow5; have hcv5 := zeros_text w5 wA.heap.size (64 + mA) hrow5; rw [e1] at hmk5; simp at hmk5; have HBA : Hid (Below W.heap.size W wA) := hqA.below HB9.out (by omega) (fun k h1 h2 => by omega); have HOA : Hid _ := Own.only HO9.out hqA (fun k h1 h2 h3 => by omega); have HB5 : Hid _ := hb5; obtain ⟨v0, v1, vf⟩ := Box2.cells (Box2.below (row_set (row_set (hqA.row HR9.out (by omega)) 0 (.slice va ls.length ca)) 1 (.slice vb lp.length cb)) hb5 (by simp; omega)); clear hrow5 hz5 hb5 hsA hgA hvA hrow hzB e1 hqA h3 hbB))
    all_goals
      have hzt : (⟨Array.replicate (64 + mA) 0⟩ : ByteArray).size ≤ 65 := by show (Array.replicate (64 + mA) (0 : UInt8)).size ≤ 65; simp; omega
      generalize (⟨Array.replicate (64 + mA) 0⟩ : ByteArray) = tz at *
      go_wp2_with fail
      first
        | exact bodyPost_ret (v := .tuple #[.agg #[.slice va ls.length ca, .slice vb lp.length cb], .int .i64 x, .string tz]) (by simp [results, Try.results4, go_sem, v0, v1]) rfl ⟨_, _, ls, lp, x, tz, rfl, GotDisk.below (got_mk HOA.out HL2.out HBA.out (by omega) (by omega)) HB5.out, hx0, hx9, hzt⟩
        | exact bodyPost_ret (v := .tuple #[.agg #[.slice va ls.length ca, .slice vb lp.length cb], .int .i64 x, .string tz]) (by simp [results, Try.results4, go_sem, x0, x1]) rfl ⟨_, _, ls, lp, x, tz, rfl, got_mk HO3.out HL2.out HB3.out (by omega) (by omega), hx0, hx9, hzt⟩
end Go.Proofs.Ytonmghpmgjfelaa.Disk
