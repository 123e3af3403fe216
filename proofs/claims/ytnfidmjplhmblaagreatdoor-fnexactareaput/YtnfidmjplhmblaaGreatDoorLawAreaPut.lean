/- The law on AreaPut. -/
import Derived.Test.YtnfidmjplhmblaaGreatDoorTextsH
import Derived.Test.YtnfidmjplhmblaaGreatDoorSpecPut
import Derived.Test.YtnfidmjplhmblaaGreatDoorImplPut2
namespace Go.Proofs.YtnfidmjplhmblaaGreatDoor.Disk
open Go.RowKit Go.Proofs.YtnfidmjplhmblaaGreatDoor.Mem Go.Proofs.YtnfidmjplhmblaaGreatDoor.Harn Go.Proofs.YtnfidmjplhmblaaGreatDoor.DiskP Go.Proofs.YtnfidmjplhmblaaGreatDoor.Mark

set_option maxRecDepth 100000 in
set_option maxHeartbeats 4000000 in
theorem aput_law (vs vp : Value) (ls : List ByteArray) (lp : List (Int × ByteArray)) (s : ByteArray) (x : Int) (A : Nat → Addr) (w : World) (hSL : Sent.SentsLaid w A Sent.sentL) (hLA : GetNum.Laid w) (h : Came w vs vp ls lp) (hs : s.size ≤ maxLen) (hx : (Lit.int .i64 x).wf = true) :
    Calls Tryz.prog 3 #[.agg #[vs, vp], .string s, .int .i64 x] w fun e w' => e = .returned (.bool true) ∧ Below w.heap.size w w' := by
  have hb0 : Below w.heap.size w (w.alloc (.cells #[vs, vp] 25)) := (Below.refl _ _).alloc (Nat.le_refl _) _
  have HB0 : Hid (Below w.heap.size w (w.alloc (.cells #[vs, vp] 25))) := hb0
  have HC0 : Hid (Came (w.alloc (.cells #[vs, vp] 25)) vs vp ls lp) := h.below hb0
  have HC : Hid (Came w vs vp ls lp) := h
  have HSL : Hid (Sent.SentsLaid w A Sent.sentL) := hSL
  have HLA : Hid (GetNum.Laid w) := hLA
  clear hb0 h hSL hLA
  unfold maxLen at hs
  by_cases hlong : 1048576 < s.size
  · go_enter Tryz.func3, Tryz.ntmps3
    go_wp2
    go_ret
    exact ⟨rfl, HB0.out⟩
  by_cases hbig : 1048576 < wtD ls lp
  · go_enter Tryz.func3, Tryz.ntmps3
    go_wp2_with (go_at_call 4; refine (HC0.out.sz 1048576 (by omega)).mono ?_; rintro e w1 ⟨hb1, ⟨r, rfl, hr⟩ | ⟨rfl, _⟩⟩; (exfalso; omega))
    go_ret
    exact ⟨rfl, bT HB0.out hb1⟩
  have HF : Hid (Fits ls lp) := HC.out.fits (by omega)
  have HW : Hid (¬ 1048576 < wtD ls lp) := hbig
  have HTO : Hid (∀ W, Below w.heap.size w W → Calls Tryz.prog 6 #[.agg #[vs, vp]] W fun e w' => ∃ us up, e = .returned (.agg #[us, up]) ∧ Own w' W.heap.size w'.heap.size us up ls lp ∧ Below W.heap.size W w' ∧ W.heap.size < w'.heap.size) := fun W hW => toDisk_own vs vp ls lp W (Strs.below HC.out.s hW) (Pends.below HC.out.p hW) HF.out.n HF.out.m
  have HSP : Hid (∀ W us up, Strs W us ls → Pends W up lp → Calls Tryz.prog 5 #[.agg #[us, up], .string s, .int .i64 x] W fun e w' => ToldA W (putAO ls lp s x) e w') := fun W us up a b => specPut_any us up ls lp s x W a b HF.out hx
  have HIM : Hid (∀ W us up, Below w.heap.size w W → Strs W us ls → Pends W up lp → Calls Tryz.prog 7 #[.agg #[us, up], .string s, .int .i64 x] W fun e w' => ToldA W (putAO ls lp s x) e w') := fun W us up hb a b => implPut_any A us up ls lp s x W a b HF.out (HSL.out.below hb) (GetNum.laid_below HLA.out hb)
  have HBX : Hid (Box25 (w.alloc (.cells #[vs, vp] 25)) w.heap.size vs vp) := box25_at w vs vp
  obtain ⟨hn1, hn2⟩ := putAO_len HF.out
  have l1 := HF.out.n
  have l2 := HF.out.m
  generalize putAO ls lp s x = O at *
  obtain ⟨os, op, t, gn, c⟩ := O
  simp only at hn1 hn2
  clear hbig
  go_enter Tryz.func3, Tryz.ntmps3
  -- the size
  go_wp2_with (go_at_call 4; refine (HC0.out.sz 1048576 (by omega)).mono ?_; rintro e w1 ⟨hb1, ⟨r, rfl, hr⟩ | ⟨rfl, hr⟩⟩; rotate_left; (exfalso; have hq := HW.out; omega); have hz1 := hb1.size; simp at hz1; have HB1 : Hid (Below w.heap.size w w1) := bT HB0.out hb1; have HX1 : Hid _ := Box25.below HBX.out hb1 (by simp); obtain ⟨c0, c1, _⟩ := Box25.cells HX1.out; clear hb1 hr)
  -- the model's answer
  refine (HTO.out _ HB1.out).mono ?_
  rintro e w2 ⟨us, up, rfl, ho2, hb2, hz2⟩
  obtain ⟨va, ca, vb, cb, rfl, rfl⟩ := ho2.shape
  have HO2 : Hid _ := ho2
  have HB2 : Hid (Below w.heap.size w w2) := bT HB1.out hb2
  have HX2 : Hid _ := Box25.below HX1.out hb2 (by omega)
  clear ho2 hb2 c0 c1 HX1 HB1
  go_wp2_with fail
  refine (HSP.out _ _ _ (Own.strs HO2.out) (Own.pends HO2.out)).mono ?_
  rintro e w3 ⟨us, up, rfl, ho3, hb3⟩
  obtain ⟨va3, ca3, vb3, cb3, rfl, rfl⟩ := ho3.shape
  have hz3 := hb3.size
  have HB3 : Hid (Below w.heap.size w (w3.alloc (.cells #[.slice va3 os.length ca3, .slice vb3 op.length cb3, .string t, .int .i64 gn, .int .i64 c] 31))) := bA (bT HB2.out hb3) _
  have HX3 : Hid _ := Box25.alloc (Box25.below HX2.out hb3 (by omega)) (.cells #[.slice va3 os.length ca3, .slice vb3 op.length cb3, .string t, .int .i64 gn, .int .i64 c] 31)
  have HA3 : Hid _ := boxA_at w3 (.slice va3 os.length ca3) (.slice vb3 op.length cb3) t gn c
  have HP3 : Hid (Own (w3.alloc (.cells #[.slice va3 os.length ca3, .slice vb3 op.length cb3, .string t, .int .i64 gn, .int .i64 c] 31)) w2.heap.size w3.heap.size (.slice va3 os.length ca3) (.slice vb3 op.length cb3) os op) := Own.below ho3 (bself _)
  clear ho3 hb3 HO2 HX2 HB2
  obtain ⟨c0, c1, _⟩ := Box25.cells HX3.out
  go_wp2_with fail
  -- the program's argument
  refine (HTO.out _ HB3.out).mono ?_
  rintro e w4 ⟨us, up, rfl, ho4, hb4, hz4⟩
  obtain ⟨va4, ca4, vb4, cb4, rfl, rfl⟩ := ho4.shape
  simp only [World.size_alloc] at hz4 ho4
  have HB4 : Hid (Below w.heap.size w (w4.alloc (.cells #[.slice va4 ls.length ca4, .slice vb4 lp.length cb4] 29))) := bA (bT HB3.out hb4) _
  have HX4 : Hid _ := Box25.alloc (Box25.below HX3.out hb4 (by simp; omega)) (.cells #[.slice va4 ls.length ca4, .slice vb4 lp.length cb4] 29)
  have HA4 : Hid _ := BoxA.alloc (BoxA.below HA3.out hb4 (by simp)) (.cells #[.slice va4 ls.length ca4, .slice vb4 lp.length cb4] 29)
  have HP4 : Hid _ := Own.below (Own.below HP3.out hb4) (bself (.cells #[.slice va4 ls.length ca4, .slice vb4 lp.length cb4] 29))
  have HQ4 : Hid (Own (w4.alloc (.cells #[.slice va4 ls.length ca4, .slice vb4 lp.length cb4] 29)) (w3.heap.size + 1) w4.heap.size (.slice va4 ls.length ca4) (.slice vb4 lp.length cb4) ls lp) := Own.below ho4 (bself _)
  have HE4 : Hid _ := box2_at w4 (.slice va4 ls.length ca4) (.slice vb4 lp.length cb4)
  clear ho4 hb4 c0 c1 HB3 HX3 HA3 HP3
  go_wp2_with fail
  -- the program's answer
  refine (HIM.out _ _ _ HB4.out (Own.strs HQ4.out) (Own.pends HQ4.out)).mono ?_
  rintro e w5 ⟨us, up, rfl, ho5, hb5⟩
  obtain ⟨va5, ca5, vb5, cb5, rfl, rfl⟩ := ho5.shape
  have hz5 := hb5.size
  simp only [World.size_alloc] at hz5 ho5
  have HB5 : Hid (Below w.heap.size w (w5.alloc (.cells #[.slice va5 os.length ca5, .slice vb5 op.length cb5, .string t, .int .i64 gn, .int .i64 c] 31))) := bA (bT HB4.out hb5) _
  have HX5 : Hid _ := Box25.alloc (Box25.below HX4.out hb5 (by simp; omega)) (.cells #[.slice va5 os.length ca5, .slice vb5 op.length cb5, .string t, .int .i64 gn, .int .i64 c] 31)
  have HA5 : Hid _ := BoxA.alloc (BoxA.below HA4.out hb5 (by simp; omega)) (.cells #[.slice va5 os.length ca5, .slice vb5 op.length cb5, .string t, .int .i64 gn, .int .i64 c] 31)
  have HE5 : Hid _ := Box2.alloc (Box2.below HE4.out hb5 (by simp)) (.cells #[.slice va5 os.length ca5, .slice vb5 op.length cb5, .string t, .int .i64 gn, .int .i64 c] 31)
  have HG5 : Hid _ := boxA_at w5 (.slice va5 os.length ca5) (.slice vb5 op.length cb5) t gn c
  have HP5 : Hid _ := Own.below (Own.below HP4.out hb5) (bself (.cells #[.slice va5 os.length ca5, .slice vb5 op.length cb5, .string t, .int .i64 gn, .int .i64 c] 31))
  have HQ5 : Hid _ := Own.below (Own.below HQ4.out hb5) (bself (.cells #[.slice va5 os.length ca5, .slice vb5 op.length cb5, .string t, .int .i64 gn, .int .i64 c] 31))
  have HR5 : Hid (Own (w5.alloc (.cells #[.slice va5 os.length ca5, .slice vb5 op.length cb5, .string t, .int .i64 gn, .int .i64 c] 31)) (w4.heap.size + 1) w5.heap.size (.slice va5 os.length ca5) (.slice vb5 op.length cb5) os op) := Own.below ho5 (bself _)
  clear ho5 hb5 HB4 HX4 HA4 HP4 HQ4 HE4
  obtain ⟨c0, c1, c2, c3, c4⟩ := BoxA.cells HA5.out
  go_wp2_with fail
  -- they are alike
  refine (eqAreaOut_any _ _ _ _ os op t gn c _ (Own.strs HR5.out) (Own.pends HR5.out) (Own.strs HP5.out) (Own.pends HP5.out) (by omega) (by omega)).mono ?_
  rintro e w6 ⟨rfl, hb6⟩
  have hz6 := hb6.size
  simp only [World.size_alloc] at hz6
  have HB6 : Hid (Below w.heap.size w w6) := bT HB5.out hb6
  have HX6 : Hid _ := Box25.below HX5.out hb6 (by simp; omega)
  have HA6 : Hid _ := BoxA.below HA5.out hb6 (by simp; omega)
  have HE6 : Hid _ := Box2.below HE5.out hb6 (by simp; omega)
  have HG6 : Hid _ := BoxA.below HG5.out hb6 (by simp)
  have HP6 : Hid _ := Own.below HP5.out hb6
  have HQ6 : Hid _ := Own.below HQ5.out hb6
  have HR6 : Hid _ := Own.below HR5.out hb6
  clear hb6 c0 c1 c2 c3 c4 HB5 HX5 HA5 HE5 HG5 HP5 HQ5 HR5
  obtain ⟨c0, c1, _⟩ := Box25.cells HX6.out
  obtain ⟨e0, e1, _⟩ := Box2.cells HE6.out
  have n1 : ¬ w4.heap.size = w.heap.size := by omega
  have n2 : ¬ w.heap.size = w4.heap.size := by omega
  go_wp2_with fail
  -- the argument stands
  go_region_held3 (fun w' => w'.cell? ⟨w4.heap.size, 0, none⟩ = some (.slice va4 ls.length ca4) ∧ w'.cell? ⟨w4.heap.size, 1, none⟩ = some (.slice vb4 lp.length cb4) ∧ w'.cell? ⟨w.heap.size, 0, none⟩ = some vs ∧ w'.cell? ⟨w.heap.size, 1, none⟩ = some vp)
    (first
      | go_keep
      | (go_split_ands; refine ⟨?_, ?_, ?_, ?_⟩ <;> (rw [hb8.cell (by simp; omega)]; first | exact k0 | exact k1 | exact k2 | exact k3))
      | (go_split_ands; refine ⟨?_, ?_, ?_, ?_⟩ <;> (rw [hb7.cell (by simp; omega)]; simp [*])))
    (first
      | (go_at_call 6; refine (HTO.out _ (by repeat' (first | exact HB6.out | apply bD))).mono ?_; rintro e w7 ⟨us, up, rfl, ho7, hb7, hz7⟩; obtain ⟨va7, ca7, vb7, cb7, rfl, rfl⟩ := ho7.shape; have HO7 : Hid _ := ho7; have hb67 : Below w6.heap.size w6 w7 := (by refine bT ?_ hb7; repeat' (first | exact Below.refl _ _ | apply bD)); have HQ67 : Hid _ := Own.below HQ6.out hb67; have k0 := (hb67.cell (p := ⟨w4.heap.size, 0, none⟩) (by simp; omega)).trans e0; have k1 := (hb67.cell (p := ⟨w4.heap.size, 1, none⟩) (by simp; omega)).trans e1; have k2 := (hb67.cell (p := ⟨w.heap.size, 0, none⟩) (by simp; omega)).trans c0; have k3 := (hb67.cell (p := ⟨w.heap.size, 1, none⟩) (by simp; omega)).trans c1; have hz67 := hb67.size; clear ho7)
      | (go_at_call 9; refine (eqDisk_any _ _ _ _ ls lp _ (Own.strs HQ67.out) (Own.pends HQ67.out) (Own.strs HO7.out) (Own.pends HO7.out) HF.out.n HF.out.m).mono ?_; rintro e w8 ⟨rfl, hb8⟩))
  have hb68 : Below w6.heap.size w6 w8 := bT hb67 hb8
  have hz8 := hb68.size
  have HB8 : Hid (Below w.heap.size w w8) := bT HB6.out hb68
  have HX8 : Hid _ := Box25.below HX6.out hb68 (by omega)
  have HA8 : Hid _ := BoxA.below HA6.out hb68 (by omega)
  have HE8 : Hid _ := Box2.below HE6.out hb68 (by omega)
  have HG8 : Hid _ := BoxA.below HG6.out hb68 (by omega)
  have HP8 : Hid _ := Own.below HP6.out hb68
  have HQ8 : Hid _ := Own.below HQ6.out hb68
  have HR8 : Hid _ := Own.below HR6.out hb68
  clear hb7 hb8 hb67 hb68 hz7 k0 k1 k2 k3 c0 c1 e0 e1 HB6 HX6 HA6 HE6 HG6 HP6 HQ6 HR6 HO7 HQ67
  obtain ⟨e0, e1, _⟩ := Box2.cells HE8.out
  go_wp2_with fail
  -- the argument marked
  refine (markDisk_own (w3.heap.size + 1) w4.heap.size 1 _ _ ls lp _ HQ8.out (by omega) (by omega) (by omega) (by omega)).mono ?_
  rintro e w9 ⟨rfl, _, hg9⟩
  have hz9 := hg9.size
  have HB9 : Hid (Below w.heap.size w w9) := hg9.below HB8.out (by omega) (fun k h1 h2 => by omega)
  have HX9 : Hid _ := Box25.only HX8.out hg9 (fun h => by omega)
  have HA9 : Hid _ := BoxA.only HA8.out hg9 (fun h => by omega)
  have HG9 : Hid _ := BoxA.only HG8.out hg9 (fun h => by omega)
  have HP9 : Hid _ := Own.only HP8.out hg9 (fun k h1 h2 h3 => by omega)
  have HR9 : Hid _ := Own.only HR8.out hg9 (fun k h1 h2 h3 => by omega)
  clear hg9 e0 e1 HB8 HX8 HA8 HE8 HG8 HP8 HQ8 HR8
  obtain ⟨c0, c1, c2, c3, c4⟩ := BoxA.cells HA9.out
  obtain ⟨d0, d1, d2, d3, d4⟩ := BoxA.cells HG9.out
  go_wp2_with fail
  refine (eqAreaOut_any _ _ _ _ os op t gn c _ (Own.strs HR9.out) (Own.pends HR9.out) (Own.strs HP9.out) (Own.pends HP9.out) (by omega) (by omega)).mono ?_
  rintro e w10 ⟨rfl, hb10⟩
  have hz10 := hb10.size
  have HB10 : Hid (Below w.heap.size w w10) := bT HB9.out hb10
  have HX10 : Hid _ := Box25.below HX9.out hb10 (by omega)
  have HA10 : Hid _ := BoxA.below HA9.out hb10 (by omega)
  have HG10 : Hid _ := BoxA.below HG9.out hb10 (by omega)
  have HP10 : Hid _ := Own.below HP9.out hb10
  have HR10 : Hid _ := Own.below HR9.out hb10
  clear hb10 c0 c1 c2 c3 c4 d0 d1 d2 d3 d4 HB9 HX9 HA9 HG9 HP9 HR9
  obtain ⟨d0, d1, d2, d3, d4⟩ := BoxA.cells HG10.out
  go_wp2_with fail
  -- the answer marked, and held
  refine (markAreaOut_own (w4.heap.size + 1) w5.heap.size 1 _ _ os op t gn c _ HR10.out (by omega) (by omega) (by omega) (by omega)).mono ?_
  rintro e w11 ⟨rfl, ho11, hg11⟩
  have hz11 := hg11.size
  have HR11 : Hid _ := ho11
  have HB11 : Hid (Below w.heap.size w w11) := hg11.below HB10.out (by omega) (fun k h1 h2 => by omega)
  have HX11 : Hid _ := Box25.only HX10.out hg11 (fun h => by omega)
  have HA11 : Hid _ := BoxA.only HA10.out hg11 (fun h => by omega)
  have HG11 : Hid _ := BoxA.only HG10.out hg11 (fun h => by omega)
  have HP11 : Hid _ := Own.only HP10.out hg11 (fun k h1 h2 h3 => by omega)
  clear hg11 ho11 d0 d1 d2 d3 d4 HB10 HX10 HA10 HG10 HP10 HR10
  obtain ⟨d0, d1, d2, d3, d4⟩ := BoxA.cells HG11.out
  go_wp2_with fail
  refine (heldAreaOut_own (w4.heap.size + 1) w5.heap.size 1 os.length op.length _ _ t gn c _ HR11.out (by omega) (by omega) (by omega)).mono ?_
  rintro e w12 ⟨rfl, hb12⟩
  have hz12 := hb12.size
  have HR12 : Hid _ := Own.below HR11.out hb12
  have HB12 : Hid (Below w.heap.size w w12) := bT HB11.out hb12
  have HX12 : Hid _ := Box25.below HX11.out hb12 (by omega)
  have HA12 : Hid _ := BoxA.below HA11.out hb12 (by omega)
  have HG12 : Hid _ := BoxA.below HG11.out hb12 (by omega)
  have HP12 : Hid _ := Own.below HP11.out hb12
  clear hb12 d0 d1 d2 d3 d4 HB11 HX11 HA11 HG11 HP11 HR11
  obtain ⟨c0, c1, _⟩ := Box25.cells HX12.out
  go_wp2_with fail
  -- once more
  refine (HTO.out _ HB12.out).mono ?_
  rintro e w13 ⟨us, up, rfl, ho13, hb13, hz13⟩
  obtain ⟨va13, ca13, vb13, cb13, rfl, rfl⟩ := ho13.shape
  have HO13 : Hid _ := ho13
  have HR13 : Hid _ := Own.below HR12.out hb13
  have HB13 : Hid (Below w.heap.size w w13) := bT HB12.out hb13
  have HA13 : Hid _ := BoxA.below HA12.out hb13 (by omega)
  have HG13 : Hid _ := BoxA.below HG12.out hb13 (by omega)
  have HP13 : Hid _ := Own.below HP12.out hb13
  clear ho13 hb13 c0 c1 HB12 HX12 HA12 HG12 HP12 HR12
  go_wp2_with fail
  refine (HIM.out _ _ _ HB13.out (Own.strs HO13.out) (Own.pends HO13.out)).mono ?_
  rintro e w14 ⟨us, up, rfl, ho14, hb14⟩
  obtain ⟨va14, ca14, vb14, cb14, rfl, rfl⟩ := ho14.shape
  have hz14 := hb14.size
  have hq : Below w14.heap.size w14 (w14.alloc (.cells #[.slice va14 os.length ca14, .slice vb14 op.length cb14, .string t, .int .i64 gn, .int .i64 c] 31)) := bself _
  have HS14 : Hid _ := Own.below ho14 hq
  have HR14 : Hid _ := Own.below (Own.below HR13.out hb14) hq
  have HP14 : Hid _ := Own.below (Own.below HP13.out hb14) hq
  have HB14 : Hid (Below w.heap.size w (w14.alloc (.cells #[.slice va14 os.length ca14, .slice vb14 op.length cb14, .string t, .int .i64 gn, .int .i64 c] 31))) := bA (bT HB13.out hb14) _
  have HA14 : Hid _ := BoxA.below (BoxA.below HA13.out hb14 (by omega)) hq (by omega)
  have HG14 : Hid _ := BoxA.below (BoxA.below HG13.out hb14 (by omega)) hq (by omega)
  clear ho14 hb14 hq HB13 HA13 HG13 HP13 HR13 HO13
  obtain ⟨c0, c1, c2, c3, c4⟩ := BoxA.cells HA14.out
  go_wp2_with fail
  refine (eqAreaOut_any _ _ _ _ os op t gn c _ (Own.strs HS14.out) (Own.pends HS14.out) (Own.strs HP14.out) (Own.pends HP14.out) (by omega) (by omega)).mono ?_
  rintro e w15 ⟨rfl, hb15⟩
  have HB15 : Hid (Below w.heap.size w w15) := bT HB14.out hb15
  have HG15 : Hid _ := BoxA.below HG14.out hb15 (by simp; omega)
  have HR15 : Hid _ := Own.below HR14.out hb15
  clear hb15 c0 c1 c2 c3 c4 HB14 HA14 HG14 HP14 HR14 HS14
  obtain ⟨d0, d1, d2, d3, d4⟩ := BoxA.cells HG15.out
  go_wp2_with fail
  refine (heldAreaOut_own (w4.heap.size + 1) w5.heap.size 1 os.length op.length _ _ t gn c _ HR15.out (by omega) (by omega) (by omega)).mono ?_
  rintro e w16 ⟨rfl, hb16⟩
  have HB16 : Hid (Below w.heap.size w w16) := bT HB15.out hb16
  clear hb16 d0 d1 d2 d3 d4
  go_wp2_with fail
  go_ret
  exact ⟨rfl, HB16.out⟩
end Go.Proofs.YtnfidmjplhmblaaGreatDoor.Disk
