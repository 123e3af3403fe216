/- The law on DiskCrash. -/
import Derived.Test.YtgjbfngooiiceaaLawBase
import Derived.Test.YtgjbfngooiiceaaSpecCrash
namespace Go.Proofs.Ytgjbfngooiiceaa.Disk
open Go.RowKit Go.Proofs.Ytgjbfngooiiceaa.Mem Go.Proofs.Ytgjbfngooiiceaa.Harn Go.Proofs.Ytgjbfngooiiceaa.DiskP Go.Proofs.Ytgjbfngooiiceaa.Mark

theorem crashO_len {ls : List ByteArray} {lp : List (Int × ByteArray)} (kp : List Int) (h : Fits ls lp) : (crashO ls lp kp).1.length ≤ 1100000 ∧ (crashO ls lp kp).2.length ≤ 1100000 := by
  unfold crashO
  split
  · exact ⟨by simp, by simp⟩
  · split
    · exact ⟨by simp only [length_flushD]; exact h.n, by simp⟩
    · exact ⟨h.n, h.m⟩

set_option maxRecDepth 100000 in
set_option maxHeartbeats 4000000 in
theorem crash_law (vs vp : Value) (ls : List ByteArray) (lp : List (Int × ByteArray)) (vk : Value) (kp : List Int) (w : World) (h : Came w vs vp ls lp) (hk : Ints w vk kp) (hkn : kp.length ≤ maxLen) (_hkz : ∀ x ∈ kp, (Lit.int .i64 x).wf = true) :
    Calls Try.prog 8 #[.agg #[vs, vp], vk] w fun e w' => e = .returned (.bool true) ∧ Below w.heap.size w w' := by
  have hb0 : Below w.heap.size w (w.alloc (.cells #[vs, vp] 25)) := (Below.refl _ _).alloc (Nat.le_refl _) _
  have HB0 : Hid (Below w.heap.size w (w.alloc (.cells #[vs, vp] 25))) := hb0
  have HC0 : Hid (Came (w.alloc (.cells #[vs, vp] 25)) vs vp ls lp) := h.below hb0
  have HC : Hid (Came w vs vp ls lp) := h
  have HKI : Hid (Ints w vk kp) := hk
  obtain ⟨ka, kc, rfl, _⟩ := hk
  unfold maxLen at hkn
  clear hb0 h
  by_cases hlong : 1048576 < kp.length
  · go_enter Try.func8, Try.ntmps8
    go_wp2
    go_ret
    exact ⟨rfl, HB0.out⟩
  by_cases hbig : 1048576 < wtD ls lp
  · go_enter Try.func8, Try.ntmps8
    go_wp2_with (go_at_call 9; refine (HC0.out.sz 1048576 (by omega)).mono ?_; rintro e w1 ⟨hb1, ⟨r, rfl, hr⟩ | ⟨rfl, _⟩⟩; (exfalso; omega))
    go_ret
    exact ⟨rfl, bT HB0.out hb1⟩
  have HF : Hid (Fits ls lp) := HC.out.fits (by omega)
  have HW : Hid (¬ 1048576 < wtD ls lp) := hbig
  have HTO : Hid (∀ W, Below w.heap.size w W → Calls Try.prog 11 #[.agg #[vs, vp]] W fun e w' => ∃ us up, e = .returned (.agg #[us, up]) ∧ Own w' W.heap.size w'.heap.size us up ls lp ∧ Below W.heap.size W w' ∧ W.heap.size < w'.heap.size) := fun W hW => toDisk_own vs vp ls lp W (Strs.below HC.out.s hW) (Pends.below HC.out.p hW) HF.out.n HF.out.m
  have HTI : Hid (∀ W, Below w.heap.size w W → Calls Try.prog 28 #[.slice ka kp.length kc] W fun e w' => e = .returned (.slice (some ⟨W.heap.size, 0, none⟩) kp.length kp.length) ∧ IntsAt w' W.heap.size 0 kp ∧ Below W.heap.size W w' ∧ w'.heap.size = W.heap.size + 1) := fun W hW => (toInts_any _ kp W (Ints.below HKI.out hW) (by omega)).mono fun e w' hh => ⟨hh.1, row_ints hh.2.1, hh.2.2⟩
  have HSP : Hid (∀ W us up uk, Strs W us ls → Pends W up lp → Ints W uk kp → Calls Try.prog 27 #[.agg #[us, up], uk] W fun e w' => ToldD W (crashO ls lp kp).1 (crashO ls lp kp).2 e w') := fun W us up uk a b c => specCrash_any us up uk ls lp kp W a b c (by omega) HF.out
  have HIM : Hid (∀ W us up uk, Strs W us ls → Pends W up lp → Ints W uk kp → Calls Try.prog 29 #[.agg #[us, up], uk] W fun e w' => ToldD W (crashO ls lp kp).1 (crashO ls lp kp).2 e w') := fun W us up uk a b c => implCrash_any us up uk ls lp kp W a b c (by omega) HF.out
  have HBX : Hid (Box25 (w.alloc (.cells #[vs, vp] 25)) w.heap.size vs vp) := box25_at w vs vp
  obtain ⟨hn1, hn2⟩ := crashO_len kp HF.out
  have l1 := HF.out.n
  have l2 := HF.out.m
  generalize (crashO ls lp kp).1 = os at *
  generalize (crashO ls lp kp).2 = op at *
  clear hbig hkn
  go_enter Try.func8, Try.ntmps8
  go_wp2_with (go_at_call 9; refine (HC0.out.sz 1048576 (by omega)).mono ?_; rintro e w1 ⟨hb1, ⟨r, rfl, hr⟩ | ⟨rfl, hr⟩⟩; rotate_left; (exfalso; have hq := HW.out; omega); have hz1 := hb1.size; simp at hz1; have HB1 : Hid (Below w.heap.size w w1) := bT HB0.out hb1; have HX1 : Hid _ := Box25.below HBX.out hb1 (by simp); obtain ⟨c0, c1, _⟩ := Box25.cells HX1.out; clear hb1 hr)
  -- the model's answer
  refine (HTO.out _ HB1.out).mono ?_
  rintro e w2 ⟨us, up, rfl, ho2, hb2, hz2⟩
  obtain ⟨va, ca, vb, cb, rfl, rfl⟩ := ho2.shape
  have HO2 : Hid _ := ho2
  have HB2 : Hid (Below w.heap.size w w2) := bT HB1.out hb2
  have HX2 : Hid _ := Box25.below HX1.out hb2 (by omega)
  clear ho2 hb2 c0 c1 HX1 HB1
  go_wp2_with fail
  refine (HTI.out _ HB2.out).mono ?_
  rintro e w3 ⟨rfl, hi3, hb3, hz3⟩
  have HI3 : Hid _ := hi3
  have HO3 : Hid _ := Own.below HO2.out hb3
  have HB3 : Hid (Below w.heap.size w w3) := bT HB2.out hb3
  have HX3 : Hid _ := Box25.below HX2.out hb3 (by omega)
  have hz3' : w2.heap.size < w3.heap.size := by omega
  clear hi3 hb3 hz3 HO2 HX2 HB2
  go_wp2_with fail
  refine (HSP.out _ _ _ _ (Own.strs HO3.out) (Own.pends HO3.out) (IntsAt.ints HI3.out _)).mono ?_
  rintro e w4 ⟨us, up, rfl, ho4, hb4⟩
  obtain ⟨va4, ca4, vb4, cb4, rfl, rfl⟩ := ho4.shape
  have hz4 := hb4.size
  have HB4 : Hid (Below w.heap.size w (w4.alloc (.cells #[.slice va4 os.length ca4, .slice vb4 op.length cb4] 30))) := bA (bT HB3.out hb4) _
  have HX4 : Hid _ := Box25.alloc (Box25.below HX3.out hb4 (by omega)) (.cells #[.slice va4 os.length ca4, .slice vb4 op.length cb4] 30)
  have HA4 : Hid _ := box2_at w4 (.slice va4 os.length ca4) (.slice vb4 op.length cb4)
  have HP4 : Hid (Own (w4.alloc (.cells #[.slice va4 os.length ca4, .slice vb4 op.length cb4] 30)) w3.heap.size w4.heap.size (.slice va4 os.length ca4) (.slice vb4 op.length cb4) os op) := Own.below ho4 (bself _)
  clear ho4 hb4 HO3 HX3 HB3 HI3
  obtain ⟨c0, c1, _⟩ := Box25.cells HX4.out
  go_wp2_with fail
  -- the program's arguments
  refine (HTO.out _ HB4.out).mono ?_
  rintro e w5 ⟨us, up, rfl, ho5, hb5, hz5⟩
  obtain ⟨va5, ca5, vb5, cb5, rfl, rfl⟩ := ho5.shape
  simp only [World.size_alloc] at hz5 ho5
  have HB5 : Hid (Below w.heap.size w (w5.alloc (.cells #[.slice va5 ls.length ca5, .slice vb5 lp.length cb5] 30))) := bA (bT HB4.out hb5) _
  have HX5 : Hid _ := Box25.alloc (Box25.below HX4.out hb5 (by simp; omega)) (.cells #[.slice va5 ls.length ca5, .slice vb5 lp.length cb5] 30)
  have HA5 : Hid _ := Box2.alloc (Box2.below HA4.out hb5 (by simp)) (.cells #[.slice va5 ls.length ca5, .slice vb5 lp.length cb5] 30)
  have HP5 : Hid _ := Own.below (Own.below HP4.out hb5) (bself (.cells #[.slice va5 ls.length ca5, .slice vb5 lp.length cb5] 30))
  have HQ5 : Hid (Own (w5.alloc (.cells #[.slice va5 ls.length ca5, .slice vb5 lp.length cb5] 30)) (w4.heap.size + 1) w5.heap.size (.slice va5 ls.length ca5) (.slice vb5 lp.length cb5) ls lp) := Own.below ho5 (bself _)
  have HE5 : Hid _ := box2_at w5 (.slice va5 ls.length ca5) (.slice vb5 lp.length cb5)
  clear ho5 hb5 c0 c1 HB4 HX4 HA4 HP4
  go_wp2_with fail
  refine (HTI.out _ HB5.out).mono ?_
  rintro e w6 ⟨rfl, hi6, hb6, hz6⟩
  simp only [World.size_alloc] at hi6 hz6
  have HI6 : Hid (IntsAt w6 (w5.heap.size + 1) 0 kp) := hi6
  have hz6' : w5.heap.size + 2 ≤ w6.heap.size := by omega
  have HB6 : Hid (Below w.heap.size w w6) := bT HB5.out hb6
  have HX6 : Hid _ := Box25.below HX5.out hb6 (by simp; omega)
  have HA6 : Hid _ := Box2.below HA5.out hb6 (by simp; omega)
  have HE6 : Hid _ := Box2.below HE5.out hb6 (by simp)
  have HP6 : Hid _ := Own.below HP5.out hb6
  have HQ6 : Hid _ := Own.below HQ5.out hb6
  clear hi6 hb6 hz6 HB5 HX5 HA5 HP5 HQ5 HE5
  obtain ⟨e0, e1, _⟩ := Box2.cells HE6.out
  go_wp2_with fail
  -- the program's answer
  refine (HIM.out _ _ _ _ (Own.strs HQ6.out) (Own.pends HQ6.out) (IntsAt.ints HI6.out _)).mono ?_
  rintro e w7 ⟨us, up, rfl, ho7, hb7⟩
  obtain ⟨va7, ca7, vb7, cb7, rfl, rfl⟩ := ho7.shape
  have hz7 := hb7.size
  have hq7 : Below w7.heap.size w7 (w7.alloc (.cells #[.slice va7 os.length ca7, .slice vb7 op.length cb7] 30)) := bself _
  have HB7 : Hid (Below w.heap.size w (w7.alloc (.cells #[.slice va7 os.length ca7, .slice vb7 op.length cb7] 30))) := bA (bT HB6.out hb7) _
  have HX7 : Hid _ := Box25.below (Box25.below HX6.out hb7 (by omega)) hq7 (by omega)
  have HA7 : Hid _ := Box2.below (Box2.below HA6.out hb7 (by omega)) hq7 (by omega)
  have HE7 : Hid _ := Box2.below (Box2.below HE6.out hb7 (by omega)) hq7 (by omega)
  have HG7 : Hid _ := box2_at w7 (.slice va7 os.length ca7) (.slice vb7 op.length cb7)
  have HP7 : Hid _ := Own.below (Own.below HP6.out hb7) hq7
  have HQ7 : Hid _ := Own.below (Own.below HQ6.out hb7) hq7
  have HI7 : Hid _ := IntsAt.below (IntsAt.below HI6.out hb7) hq7
  have HR7 : Hid _ := Own.below ho7 hq7
  clear ho7 hb7 hq7 e0 e1 HB6 HX6 HA6 HE6 HP6 HQ6 HI6
  obtain ⟨c0, c1, _⟩ := Box2.cells HA7.out
  go_wp2_with fail
  -- they are alike
  refine (eqDisk_any _ _ _ _ os op _ (Own.strs HR7.out) (Own.pends HR7.out) (Own.strs HP7.out) (Own.pends HP7.out) (by omega) (by omega)).mono ?_
  rintro e w8 ⟨rfl, hb8⟩
  have hz8 := hb8.size
  simp only [World.size_alloc] at hz8
  have HB8 : Hid (Below w.heap.size w w8) := bT HB7.out hb8
  have HX8 : Hid _ := Box25.below HX7.out hb8 (by simp; omega)
  have HA8 : Hid _ := Box2.below HA7.out hb8 (by simp; omega)
  have HE8 : Hid _ := Box2.below HE7.out hb8 (by simp; omega)
  have HG8 : Hid _ := Box2.below HG7.out hb8 (by simp)
  have HP8 : Hid _ := Own.below HP7.out hb8
  have HQ8 : Hid _ := Own.below HQ7.out hb8
  have HI8 : Hid _ := IntsAt.below HI7.out hb8
  have HR8 : Hid _ := Own.below HR7.out hb8
  clear hb8 c0 c1 HB7 HX7 HA7 HE7 HG7 HP7 HQ7 HI7 HR7
  obtain ⟨c0, c1, _⟩ := Box25.cells HX8.out
  obtain ⟨e0, e1, _⟩ := Box2.cells HE8.out
  have n1 : ¬ w5.heap.size = w.heap.size := by omega
  have n2 : ¬ w.heap.size = w5.heap.size := by omega
  go_wp2_with fail
  -- the arguments stand
  go_region_held3 (fun w' => w'.cell? ⟨w5.heap.size, 0, none⟩ = some (.slice va5 ls.length ca5) ∧ w'.cell? ⟨w5.heap.size, 1, none⟩ = some (.slice vb5 lp.length cb5) ∧ w'.cell? ⟨w.heap.size, 0, none⟩ = some vs ∧ w'.cell? ⟨w.heap.size, 1, none⟩ = some vp)
    (first
      | go_keep
      | (go_split_ands; refine ⟨?_, ?_, ?_, ?_⟩ <;> (rw [hb10.cell (by simp; omega)]; first | exact k0 | exact k1 | exact k2 | exact k3))
      | (go_split_ands; refine ⟨?_, ?_, ?_, ?_⟩ <;> (rw [hb9.cell (by simp; omega)]; simp [*])))
    (first
      | (go_at_call 11; refine (HTO.out _ (by repeat' (first | exact HB8.out | apply bD))).mono ?_; rintro e w9 ⟨us, up, rfl, ho9, hb9, hz9⟩; obtain ⟨va9, ca9, vb9, cb9, rfl, rfl⟩ := ho9.shape; have HO9 : Hid _ := ho9; have hb89 : Below w8.heap.size w8 w9 := (by refine bT ?_ hb9; repeat' (first | exact Below.refl _ _ | apply bD)); have HQ89 : Hid _ := Own.below HQ8.out hb89; have k0 := (hb89.cell (p := ⟨w5.heap.size, 0, none⟩) (by simp; omega)).trans e0; have k1 := (hb89.cell (p := ⟨w5.heap.size, 1, none⟩) (by simp; omega)).trans e1; have k2 := (hb89.cell (p := ⟨w.heap.size, 0, none⟩) (by simp; omega)).trans c0; have k3 := (hb89.cell (p := ⟨w.heap.size, 1, none⟩) (by simp; omega)).trans c1; have hz89 := hb89.size; clear ho9)
      | (go_at_call 13; refine (eqDisk_any _ _ _ _ ls lp _ (Own.strs HQ89.out) (Own.pends HQ89.out) (Own.strs HO9.out) (Own.pends HO9.out) HF.out.n HF.out.m).mono ?_; rintro e w10 ⟨rfl, hb10⟩))
  have hbs : Below w8.heap.size w8 w10 := bT hb89 hb10
  have hz10 := hbs.size
  have HB10 : Hid (Below w.heap.size w w10) := bT HB8.out hbs
  have HX10 : Hid _ := Box25.below HX8.out hbs (by omega)
  have HA10 : Hid _ := Box2.below HA8.out hbs (by omega)
  have HE10 : Hid _ := Box2.below HE8.out hbs (by omega)
  have HG10 : Hid _ := Box2.below HG8.out hbs (by omega)
  have HP10 : Hid _ := Own.below HP8.out hbs
  have HQ10 : Hid _ := Own.below HQ8.out hbs
  have HI10 : Hid _ := IntsAt.below HI8.out hbs
  have HR10 : Hid _ := Own.below HR8.out hbs
  clear hb9 hb10 hb89 hbs hz9 k0 k1 k2 k3 c0 c1 e0 e1 HB8 HX8 HA8 HE8 HG8 HP8 HQ8 HI8 HR8 HO9 HQ89
  go_wp2_with fail
  refine (HTI.out _ HB10.out).mono ?_
  rintro e w11 ⟨rfl, hi11, hb11, hz11⟩
  have hz11' : w10.heap.size < w11.heap.size := by omega
  have HJ11 : Hid _ := hi11
  have HB11 : Hid (Below w.heap.size w w11) := bT HB10.out hb11
  have HX11 : Hid _ := Box25.below HX10.out hb11 (by omega)
  have HA11 : Hid _ := Box2.below HA10.out hb11 (by omega)
  have HE11 : Hid _ := Box2.below HE10.out hb11 (by omega)
  have HG11 : Hid _ := Box2.below HG10.out hb11 (by omega)
  have HP11 : Hid _ := Own.below HP10.out hb11
  have HQ11 : Hid _ := Own.below HQ10.out hb11
  have HI11 : Hid _ := IntsAt.below HI10.out hb11
  have HR11 : Hid _ := Own.below HR10.out hb11
  clear hi11 hb11 hz11 HB10 HX10 HA10 HE10 HG10 HP10 HQ10 HI10 HR10
  go_wp2_with fail
  refine (eqInts_any _ _ kp _ (IntsAt.ints HI11.out _) (IntsAt.ints HJ11.out _) (by omega)).mono ?_
  rintro e w12 ⟨rfl, nd, hw12⟩
  have hb12 : Below w11.heap.size w11 w12 := by rw [hw12]; exact Sha.bel_drewN (Below.refl _ _) nd
  have hz12 := hb12.size
  have HB12 : Hid (Below w.heap.size w w12) := bT HB11.out hb12
  have HX12 : Hid _ := Box25.below HX11.out hb12 (by omega)
  have HA12 : Hid _ := Box2.below HA11.out hb12 (by omega)
  have HE12 : Hid _ := Box2.below HE11.out hb12 (by omega)
  have HG12 : Hid _ := Box2.below HG11.out hb12 (by omega)
  have HP12 : Hid _ := Own.below HP11.out hb12
  have HQ12 : Hid _ := Own.below HQ11.out hb12
  have HI12 : Hid _ := IntsAt.below HI11.out hb12
  have HR12 : Hid _ := Own.below HR11.out hb12
  clear hb12 hw12 HB11 HX11 HA11 HE11 HG11 HP11 HQ11 HI11 HR11 HJ11
  obtain ⟨e0, e1, _⟩ := Box2.cells HE12.out
  go_wp2_with fail
  -- the arguments marked
  refine (markDisk_own (w4.heap.size + 1) w5.heap.size 1 _ _ ls lp _ HQ12.out (by omega) (by omega) (by omega) (by omega)).mono ?_
  rintro e w13 ⟨rfl, _, hg13⟩
  have hz13 := hg13.size
  have HB13 : Hid (Below w.heap.size w w13) := hg13.below HB12.out (by omega) (fun k h1 h2 => by omega)
  have HX13 : Hid _ := Box25.only HX12.out hg13 (fun h => by omega)
  have HA13 : Hid _ := Box2.only HA12.out hg13 (fun h => by omega)
  have HG13 : Hid _ := Box2.only HG12.out hg13 (fun h => by omega)
  have HP13 : Hid _ := Own.only HP12.out hg13 (fun k h1 h2 h3 => by omega)
  have HI13 : Hid _ := IntsAt.only HI12.out hg13 (.inr (fun h => by omega))
  have HR13 : Hid _ := Own.only HR12.out hg13 (fun k h1 h2 h3 => by omega)
  clear hg13 e0 e1 HB12 HX12 HA12 HE12 HG12 HP12 HQ12 HI12 HR12
  go_wp2_with fail
  refine (markInts_any (w5.heap.size + 1) 0 kp.length (1 + ls.length + 2 * lp.length) kp _ HI13.out (by omega) (by omega)).mono ?_
  rintro e w14 ⟨rfl, _, hg14⟩
  have hq14 : Only (fun b => b = w5.heap.size + 1) w13 w14 := Only.of_grown hg14 rfl
  have hz14 := hq14.size
  have HB14 : Hid (Below w.heap.size w w14) := hq14.below HB13.out (by omega) (fun k h1 h2 => by omega)
  have HX14 : Hid _ := Box25.only HX13.out hq14 (fun h => by omega)
  have HA14 : Hid _ := Box2.only HA13.out hq14 (fun h => by omega)
  have HG14 : Hid _ := Box2.only HG13.out hq14 (fun h => by omega)
  have HP14 : Hid _ := Own.only HP13.out hq14 (fun k h1 h2 h3 => by omega)
  have HR14 : Hid _ := Own.only HR13.out hq14 (fun k h1 h2 h3 => by omega)
  clear hg14 hq14 HB13 HX13 HA13 HG13 HP13 HI13 HR13
  obtain ⟨c0, c1, _⟩ := Box2.cells HA14.out
  obtain ⟨d0, d1, _⟩ := Box2.cells HG14.out
  go_wp2_with fail
  refine (eqDisk_any _ _ _ _ os op _ (Own.strs HR14.out) (Own.pends HR14.out) (Own.strs HP14.out) (Own.pends HP14.out) (by omega) (by omega)).mono ?_
  rintro e w15 ⟨rfl, hb15⟩
  have hz15 := hb15.size
  have HB15 : Hid (Below w.heap.size w w15) := bT HB14.out hb15
  have HX15 : Hid _ := Box25.below HX14.out hb15 (by omega)
  have HA15 : Hid _ := Box2.below HA14.out hb15 (by omega)
  have HG15 : Hid _ := Box2.below HG14.out hb15 (by omega)
  have HP15 : Hid _ := Own.below HP14.out hb15
  have HR15 : Hid _ := Own.below HR14.out hb15
  clear hb15 c0 c1 d0 d1 HB14 HX14 HA14 HG14 HP14 HR14
  obtain ⟨d0, d1, _⟩ := Box2.cells HG15.out
  go_wp2_with fail
  -- the answer marked, and held
  refine (markDisk_own w6.heap.size w7.heap.size 1 _ _ os op _ HR15.out (by omega) (by omega) (by omega) (by omega)).mono ?_
  rintro e w16 ⟨rfl, ho16, hg16⟩
  have hz16 := hg16.size
  have HR16 : Hid _ := ho16
  have HB16 : Hid (Below w.heap.size w w16) := hg16.below HB15.out (by omega) (fun k h1 h2 => by omega)
  have HX16 : Hid _ := Box25.only HX15.out hg16 (fun h => by omega)
  have HA16 : Hid _ := Box2.only HA15.out hg16 (fun h => by omega)
  have HG16 : Hid _ := Box2.only HG15.out hg16 (fun h => by omega)
  have HP16 : Hid _ := Own.only HP15.out hg16 (fun k h1 h2 h3 => by omega)
  clear hg16 ho16 d0 d1 HB15 HX15 HA15 HG15 HP15 HR15
  obtain ⟨d0, d1, _⟩ := Box2.cells HG16.out
  go_wp2_with fail
  refine (heldDisk_own w6.heap.size w7.heap.size 1 os.length op.length _ _ _ HR16.out (by omega) (by omega) (by omega)).mono ?_
  rintro e w17 ⟨rfl, hb17⟩
  have hz17 := hb17.size
  have HR17 : Hid _ := Own.below HR16.out hb17
  have HB17 : Hid (Below w.heap.size w w17) := bT HB16.out hb17
  have HX17 : Hid _ := Box25.below HX16.out hb17 (by omega)
  have HA17 : Hid _ := Box2.below HA16.out hb17 (by omega)
  have HG17 : Hid _ := Box2.below HG16.out hb17 (by omega)
  have HP17 : Hid _ := Own.below HP16.out hb17
  clear hb17 d0 d1 HB16 HX16 HA16 HG16 HP16 HR16
  obtain ⟨c0, c1, _⟩ := Box25.cells HX17.out
  go_wp2_with fail
  -- once more
  refine (HTO.out _ HB17.out).mono ?_
  rintro e w18 ⟨us, up, rfl, ho18, hb18, hz18⟩
  obtain ⟨va18, ca18, vb18, cb18, rfl, rfl⟩ := ho18.shape
  have HO18 : Hid _ := ho18
  have HR18 : Hid _ := Own.below HR17.out hb18
  have HB18 : Hid (Below w.heap.size w w18) := bT HB17.out hb18
  have HA18 : Hid _ := Box2.below HA17.out hb18 (by omega)
  have HG18 : Hid _ := Box2.below HG17.out hb18 (by omega)
  have HP18 : Hid _ := Own.below HP17.out hb18
  clear ho18 hb18 c0 c1 HB17 HX17 HA17 HG17 HP17 HR17
  go_wp2_with fail
  refine (HTI.out _ HB18.out).mono ?_
  rintro e w19 ⟨rfl, hi19, hb19, hz19⟩
  have hz19' : w18.heap.size < w19.heap.size := by omega
  have HI19 : Hid _ := hi19
  have HO19 : Hid _ := Own.below HO18.out hb19
  have HR19 : Hid _ := Own.below HR18.out hb19
  have HB19 : Hid (Below w.heap.size w w19) := bT HB18.out hb19
  have HA19 : Hid _ := Box2.below HA18.out hb19 (by omega)
  have HG19 : Hid _ := Box2.below HG18.out hb19 (by omega)
  have HP19 : Hid _ := Own.below HP18.out hb19
  clear hi19 hb19 hz19 HO18 HB18 HA18 HG18 HP18 HR18
  go_wp2_with fail
  refine (HIM.out _ _ _ _ (Own.strs HO19.out) (Own.pends HO19.out) (IntsAt.ints HI19.out _)).mono ?_
  rintro e w20 ⟨us, up, rfl, ho20, hb20⟩
  obtain ⟨va20, ca20, vb20, cb20, rfl, rfl⟩ := ho20.shape
  have hz20 := hb20.size
  have hq : Below w20.heap.size w20 (w20.alloc (.cells #[.slice va20 os.length ca20, .slice vb20 op.length cb20] 30)) := bself _
  have HS20 : Hid _ := Own.below ho20 hq
  have HR20 : Hid _ := Own.below (Own.below HR19.out hb20) hq
  have HP20 : Hid _ := Own.below (Own.below HP19.out hb20) hq
  have HB20 : Hid (Below w.heap.size w (w20.alloc (.cells #[.slice va20 os.length ca20, .slice vb20 op.length cb20] 30))) := bA (bT HB19.out hb20) _
  have HA20 : Hid _ := Box2.below (Box2.below HA19.out hb20 (by omega)) hq (by omega)
  have HG20 : Hid _ := Box2.below (Box2.below HG19.out hb20 (by omega)) hq (by omega)
  clear ho20 hb20 hq HB19 HA19 HG19 HP19 HR19 HO19 HI19
  obtain ⟨c0, c1, _⟩ := Box2.cells HA20.out
  go_wp2_with fail
  refine (eqDisk_any _ _ _ _ os op _ (Own.strs HS20.out) (Own.pends HS20.out) (Own.strs HP20.out) (Own.pends HP20.out) (by omega) (by omega)).mono ?_
  rintro e w21 ⟨rfl, hb21⟩
  have HB21 : Hid (Below w.heap.size w w21) := bT HB20.out hb21
  have HG21 : Hid _ := Box2.below HG20.out hb21 (by simp; omega)
  have HR21 : Hid _ := Own.below HR20.out hb21
  clear hb21 c0 c1 HB20 HA20 HG20 HP20 HR20 HS20
  obtain ⟨d0, d1, _⟩ := Box2.cells HG21.out
  go_wp2_with fail
  refine (heldDisk_own w6.heap.size w7.heap.size 1 os.length op.length _ _ _ HR21.out (by omega) (by omega) (by omega)).mono ?_
  rintro e w22 ⟨rfl, hb22⟩
  have HB22 : Hid (Below w.heap.size w w22) := bT HB21.out hb22
  clear hb22 d0 d1
  go_wp2_with fail
  go_ret
  exact ⟨rfl, HB22.out⟩
end Go.Proofs.Ytgjbfngooiiceaa.Disk
