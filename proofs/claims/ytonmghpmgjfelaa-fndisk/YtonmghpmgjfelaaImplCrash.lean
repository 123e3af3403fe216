/- What the program's DiskCrash answers. -/
import Derived.Test.YtonmghpmgjfelaaImplKept
import Derived.Test.YtonmghpmgjfelaaImplDisk
namespace Go.Proofs.Ytonmghpmgjfelaa.Disk
open Go.RowKit Go.Proofs.Ytonmghpmgjfelaa.Mem Go.Proofs.Ytonmghpmgjfelaa.Harn Go.Proofs.Ytonmghpmgjfelaa.DiskP

theorem keptD_mem {lp : List (Int × ByteArray)} {kp : List Int} {P : Int × ByteArray → Prop} (h : ∀ y ∈ lp, P y) : ∀ y ∈ keptD lp kp, P y := fun y hy => h y (keptTo_mem lp kp lp.length y hy)

set_option maxRecDepth 100000 in
set_option maxHeartbeats 2000000 in
theorem implCrash_any (vs vp vk : Value) (ls : List ByteArray) (lp : List (Int × ByteArray)) (kp : List Int) (w : World) (hs : Strs w vs ls) (hp : Pends w vp lp) (hk : Ints w vk kp) (hkn : kp.length ≤ 1100000) (hf : Fits ls lp) :
    Calls Try.prog 7 #[.agg #[vs, vp], vk] w fun e w' => ToldD w (crashO ls lp kp).1 (crashO ls lp kp).2 e w' := by
  obtain ⟨W0, hW0⟩ : ∃ W0, W0 = (w.alloc (.cells #[vs, vp] 26)).alloc (.cells #[.slice none 0 0, .slice none 0 0] 26) := ⟨_, rfl⟩
  have HB0 : Hid (Below w.heap.size w W0) := by rw [hW0]; exact ((Below.refl _ _).alloc (Nat.le_refl _) _).alloc (by simp) _
  have HX0 : Hid (Box2 W0 w.heap.size vs vp) := by rw [hW0]; exact box2_new w vs vp _
  have HY0 : Hid (Box2 W0 (w.heap.size + 1) (.slice none 0 0) (.slice none 0 0)) := by rw [hW0]; exact Sha.row_new_at (w.alloc _) [.slice none 0 0, .slice none 0 0] 26 _ (by simp)
  have HZ0 : Hid (W0.heap.size = w.heap.size + 2) := by rw [hW0]; simp [Hid]
  have HK : Hid (Calls Try.prog 20 #[.agg #[vs, vp]] W0 fun e w' => e = .returned (.bool (rightB ls lp)) ∧ Below W0.heap.size W0 w') := implRight_any vs vp ls lp _ (Strs.below hs HB0.out) (Pends.below hp HB0.out) hf.n hf.m hf.t hf.y
  have HS : Hid (Strs w vs ls) := hs
  have HP : Hid (Pends w vp lp) := hp
  have HKI : Hid (Ints w vk kp) := hk
  have HF : Hid (Fits ls lp) := hf
  clear hs hp hf
  obtain ⟨ka, kc, rfl, _⟩ := hk
  by_cases s1 : 400 < kp.length
  · rw [crashO_size s1]
    go_enter Try.func7, Try.ntmps7
    go_wp2_with fail
    refine bodyPost_ret (v := .agg #[.slice none 0 0, .slice none 0 0]) (by simp [results, Try.results7, go_sem]) rfl ⟨_, _, rfl, own_zero _ _ _, ?_⟩
    repeat' (first | exact ((Below.refl _ _).alloc (Nat.le_refl _) _).alloc (by simp) _ | refine Below.setCell ?_ (by simp) _)
  have hd4 : decide (400 < (kp.length : Int)) = false := decide_eq_false (by omega)
  cases hr : rightB ls lp with
  | false =>
    rw [hr] at HK
    rw [crashO_form s1 hr]
    clear hr
    go_enter Try.func7, Try.ntmps7
    go_wp2_with fail
    rw [← hW0]
    refine HK.out.mono ?_
    rintro e w1 ⟨rfl, hb1⟩
    have hz1 : w.heap.size + 2 ≤ w1.heap.size := by have := hb1.size; have := HZ0.out; omega
    have HB1 : Hid (Below w.heap.size w w1) := bT HB0.out hb1
    have HX1 : Hid _ := Box2.below HX0.out hb1 (by have := HZ0.out; omega)
    have HY1 : Hid _ := Box2.below HY0.out hb1 (by have := HZ0.out; omega)
    clear hb1 hW0
    obtain ⟨c0, c1, _⟩ := Box2.cells HX1.out
    go_wp2_with (go_at_call 28; refine (copyDisk_any _ _ ls lp _ (Strs.below HS.out HB1.out) (Pends.below HP.out HB1.out) HF.out.n HF.out.m HF.out.t2 HF.out.y2).mono ?_; rintro e w2 ⟨us, up, rfl, ho2, hb2⟩; obtain ⟨va, ca, vb, cb, rfl, rfl⟩ := ho2.shape; have HO2 : Hid _ := ho2; have HB2 : Hid (Below w.heap.size w w2) := bT HB1.out hb2; have hz2 := hb2.size; obtain ⟨m0, m1, mf⟩ := (Box2.below HY1.out hb2 (by omega)).cells; clear ho2 hb2 c0 c1)
    refine bodyPost_ret (v := .agg #[.slice va ls.length ca, .slice vb lp.length cb]) (by simp [results, Try.results7, go_sem, m0, m1]) rfl ⟨_, _, rfl, ?_, ?_⟩
    · refine Own.wide (lo := w1.heap.size) (hi := w2.heap.size) ?_ (by omega) (by simp)
      exact Own.setCell (Own.setCell HO2.out (.inl (by simp; omega)) _) (.inl (by simp; omega)) _
    · exact (HB2.out.setCell (p := ⟨w.heap.size + 1, 0, none⟩) (by simp) _).setCell (p := ⟨w.heap.size + 1, 1, none⟩) (by simp) _
  | true =>
    obtain ⟨r1, r2, r3, r4, r5, r6, r7⟩ := right_pends hr
    rw [hr] at HK
    rw [crashO_ok s1 hr]
    have R1 : Hid (∀ y ∈ keptD lp kp, 0 ≤ y.1 ∧ y.1 < 64) := keptD_mem r1
    have R2 : Hid (∀ y ∈ keptD lp kp, 0 ≤ y.1 ∧ y.2.size ≤ 2000000) := keptD_mem r2
    have R3 : Hid (∀ t ∈ ls, t.size ≤ 2000000) := r3
    have R4 : Hid ((keptD lp kp).length ≤ 200) := Nat.le_trans (keptTo_len lp kp lp.length) r6
    have HLN : Hid ((flushD ls (keptD lp kp)).length = ls.length) := length_flushD _ _
    clear hr r1 r2 r3 r7
    go_enter Try.func7, Try.ntmps7
    go_wp2_with fail
    rw [← hW0]
    refine HK.out.mono ?_
    rintro e w1 ⟨rfl, hb1⟩
    have hz1 : w.heap.size + 2 ≤ w1.heap.size := by have := hb1.size; have := HZ0.out; omega
    have HB1 : Hid (Below w.heap.size w w1) := bT HB0.out hb1
    have HX1 : Hid _ := Box2.below HX0.out hb1 (by have := HZ0.out; omega)
    have HY1 : Hid _ := Box2.below HY0.out hb1 (by have := HZ0.out; omega)
    clear hb1 hW0
    obtain ⟨c0, c1, _⟩ := Box2.cells HX1.out
    obtain ⟨d0, d1, df⟩ := Box2.cells HY1.out
    have n1 : ¬ w.heap.size + 1 = w.heap.size := by omega
    go_wp2_with fail
    go_region_held3 (fun w' => w'.cell? ⟨w.heap.size, 0, none⟩ = some vs ∧ w'.cell? ⟨w.heap.size, 1, none⟩ = some vp)
      (first
        | go_keep
        | (go_split_ands; refine ⟨?_, ?_⟩ <;> (rw [World.cell?_setCell_other _ _ _ _ (by intro e; injection e with e _ _; omega), World.cell?_setCell_other _ _ _ _ (by intro e; injection e with e _ _; omega)]; first | exact j0 | exact j1))
        | (go_split_ands; refine ⟨?_, ?_⟩ <;> (first | exact j0 | exact j1))
        | (go_split_ands; refine ⟨?_, ?_⟩ <;> (first | exact k0 | exact k1))
        | (go_split_ands; refine ⟨?_, ?_⟩ <;> (first | exact l0 | exact l1)))
      (first
        | (go_at_call 32; refine (kept_any vp _ lp kp _ (Pends.below HP.out (by repeat' (first | exact HB1.out | apply bD))) (Ints.below HKI.out (by repeat' (first | exact HB1.out | apply bD))) r6).mono ?_; rintro e w2 ⟨v2, rfl, hp2, hb2⟩; have hb12 : Below w1.heap.size w1 w2 := (by refine bT ?_ hb2; repeat' (first | exact Below.refl _ _ | apply bD)); have HP2 : Hid _ := hp2; have HB12 : Hid _ := hb12; have hz2 := hb12.size; have l0 := (hb12.cell (p := ⟨w.heap.size, 0, none⟩) (by simp; omega)).trans c0; have l1 := (hb12.cell (p := ⟨w.heap.size, 1, none⟩) (by simp; omega)).trans c1; clear hp2 hb2 hb12)
        | (go_at_call 31; refine (workOn_any vs v2 ls (keptD lp kp) _ (Strs.below HS.out (bT HB1.out HB12.out)) HP2.out HF.out.n (by have := R4.out; omega) R3.out R1.out).mono ?_; rintro e w3 ⟨gs, gm, rfl, a1, a2, a3, a4, a5, a6, a7, hb3⟩; have HA1 : Hid _ := a1; have HA2 : Hid _ := a2; have HB3 : Hid _ := hb3; have hz3 := hb3.size; have k0 := (hb3.cell (p := ⟨w.heap.size, 0, none⟩) (by simp; omega)).trans l0; have k1 := (hb3.cell (p := ⟨w.heap.size, 1, none⟩) (by simp; omega)).trans l1; clear a1 a2 hb3)
        | (go_at_call 33; refine (flush_any gs gm (keptD lp kp).length ls.length w2.heap.size ls (keptD lp kp) _ HA1.out HA2.out a5 a6 a3 a4 r5 R2.out).mono ?_; rintro e w4 ⟨rfl, b1, hb4⟩; have HF4 : Hid _ := b1; have HB4 : Hid _ := hb4; have hz4 := hb4.size; have j0 := (hb4.cell (p := ⟨w.heap.size, 0, none⟩) (by simp; omega)).trans k0; have j1 := (hb4.cell (p := ⟨w.heap.size, 1, none⟩) (by simp; omega)).trans k1; obtain ⟨m0, m1, mf⟩ := (Box2.below (Box2.below (Box2.below HY1.out HB12.out (by omega)) HB3.out (by omega)) hb4 (by omega)).cells; clear b1 hb4))
    have HB5 : Hid (Below w.heap.size w w4) := ((HB1.out.trans (HB12.out.mono (by omega))).trans (HB3.out.mono (by omega))).trans (HB4.out.mono (by omega))
    go_wp2_with fail
    refine bodyPost_ret (v := .agg #[.slice (some ⟨gs, 0, none⟩) ls.length ls.length, .slice none 0 0]) (by simp [results, Try.results7, go_sem, m0, m1]) rfl ⟨_, _, rfl, ?_, ?_⟩
    · rw [← HLN.out]
      refine own_mk0 ?_ (by omega) (by simp; omega)
      refine StrsAt.other (StrsAt.other HF4.out ?_ _) ?_ _ <;> (simp only; omega)
    · refine (HB5.out.setCell ?_ _).setCell ?_ _ <;> (simp only; omega)
end Go.Proofs.Ytonmghpmgjfelaa.Disk
