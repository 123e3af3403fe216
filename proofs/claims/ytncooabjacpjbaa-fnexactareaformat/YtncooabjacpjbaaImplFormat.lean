/- The program's AreaFormat. -/
import Derived.Test.YtncooabjacpjbaaImplSteps
namespace Go.Proofs.Ytncooabjacpjbaa.Disk
open Go.RowKit Go.Proofs.Ytncooabjacpjbaa.Mem Go.Proofs.Ytncooabjacpjbaa.Harn Go.Proofs.Ytncooabjacpjbaa.DiskP

def formatO (ls : List ByteArray) (lp : List (Int × ByteArray)) : AOut := if rightB ls lp = true then (if ls.length < 3 then illA 9 else runO ls lp [(false, 0, headB 0 0 0), (true, 0, ByteArray.empty)]) else illA 1
theorem formatO_form {ls : List ByteArray} {lp : List (Int × ByteArray)} (h : rightB ls lp = false) : formatO ls lp = illA 1 := by unfold formatO; rw [h]; rfl
theorem formatO_full {ls : List ByteArray} {lp : List (Int × ByteArray)} (h : rightB ls lp = true) (h2 : ls.length < 3) : formatO ls lp = illA 9 := by unfold formatO; rw [if_pos h, if_pos h2]
theorem formatO_ok {ls : List ByteArray} {lp : List (Int × ByteArray)} (h : rightB ls lp = true) (h2 : ¬ ls.length < 3) : formatO ls lp = runO ls lp [(false, 0, headB 0 0 0), (true, 0, ByteArray.empty)] := by unfold formatO; rw [if_pos h, if_neg h2]
theorem formatO_fits {ls : List ByteArray} {lp : List (Int × ByteArray)} (h : Fits ls lp) : Fits (formatO ls lp).ls (formatO ls lp).lp := by
  unfold formatO
  split
  · split
    · exact fits_nil
    · exact runO_fits _ ls lp h
  · exact fits_nil
theorem formatO_len {ls : List ByteArray} {lp : List (Int × ByteArray)} (h : Fits ls lp) : (formatO ls lp).ls.length ≤ 1100000 ∧ (formatO ls lp).lp.length ≤ 1100000 := ⟨(formatO_fits h).n, (formatO_fits h).m⟩

set_option maxRecDepth 100000 in
set_option maxHeartbeats 4000000 in
theorem implFormat_any (vs vp : Value) (ls : List ByteArray) (lp : List (Int × ByteArray)) (w : World) (hs : Strs w vs ls) (hp : Pends w vp lp) (hf : Fits ls lp) :
    Calls Try.prog 11 #[.agg #[vs, vp]] w fun e w' => ToldA w (formatO ls lp) e w' := by
  obtain ⟨va, ca, rfl, hsv⟩ := id hs
  clear hsv
  obtain ⟨W0, hW0⟩ : ∃ W0, W0 = (w.alloc (.cells #[.slice va ls.length ca, vp] 30)).alloc (.cells #[.slice none 0 0, .slice none 0 0, .string { data := #[] }, .int .i64 0, .int .i64 0] 35) := ⟨_, rfl⟩
  have HB0 : Hid (Below w.heap.size w W0) := by rw [hW0]; exact bA (bself _) _
  have HZ : Hid (W0.heap.size = w.heap.size + 2) := by rw [hW0]; simp [Hid]
  have HR : Hid (BoxA W0 (w.heap.size + 1) (.slice none 0 0) (.slice none 0 0) ByteArray.empty 0 0) := by rw [hW0]; exact Sha.row_new_at (w.alloc _) [.slice none 0 0, .slice none 0 0, .string ByteArray.empty, .int .i64 0, .int .i64 0] 35 _ (by simp)
  have HX : Hid (Box2 W0 w.heap.size (.slice va ls.length ca) vp) := by rw [hW0]; exact Sha.row_alloc (Sha.row_new w [.slice va ls.length ca, vp] 30) _
  have HS : Hid (Strs W0 (.slice va ls.length ca) ls) := hs.below HB0.out
  have HP : Hid (Pends W0 vp lp) := hp.below HB0.out
  have HF : Hid (Fits ls lp) := hf
  have K1 : Hid (Calls Try.prog 22 #[.agg #[.slice va ls.length ca, vp]] W0 fun e w' => e = .returned (.bool (rightB ls lp)) ∧ Below W0.heap.size W0 w') := implRight_any _ vp ls lp W0 HS.out HP.out hf.n hf.m hf.t hf.y
  clear hs hp hf
  cases hr : rightB ls lp
  · rw [formatO_form hr]
    rw [hr] at K1
    clear hr
    go_enter Try.func11, Try.ntmps11
    go_wp2_with (go_at_call 22; rw [← hW0]; clear hW0; refine K1.out.mono ?_; rintro e w1 ⟨rfl, hb1⟩; have hz := hb1.size; have hz0 := HZ.out; have HR1 : Hid _ := BoxA.below HR.out hb1 (by omega); obtain ⟨r0, r1, r2, r3, r4⟩ := BoxA.cells HR1.out; have rf := BoxA.frozen HR1.out; have HB1 : Hid _ := hb1; clear hb1)
    exact bodyPost_ret (v := outA (.slice none 0 0) (.slice none 0 0) ByteArray.empty 0 1) (by simp [results, Try.results11, go_sem, r0, r1, r2, r3, r4]; rfl) rfl (told_set5 (o := illA 1) (own_zero _ w.heap.size w.heap.size) (bT HB0.out HB1.out) (Nat.le_refl _) (by omega) (.inr (by omega)) (by omega))
  rw [hr] at K1
  by_cases h3 : ls.length < 3
  · rw [formatO_full hr h3]
    clear hr
    have h3i : (ls.length : Int) < 3 := by omega
    go_enter Try.func11, Try.ntmps11
    go_wp2_with (go_at_call 22; rw [← hW0]; clear hW0; refine K1.out.mono ?_; rintro e w1 ⟨rfl, hb1⟩; have hz := hb1.size; have hz0 := HZ.out; have HR1 : Hid _ := BoxA.below HR.out hb1 (by omega); obtain ⟨r0, r1, r2, r3, r4⟩ := BoxA.cells HR1.out; have rf := BoxA.frozen HR1.out; obtain ⟨x0, x1, _⟩ := Box2.cells (Box2.below HX.out hb1 (by omega)); have HB1 : Hid _ := hb1; clear hb1)
    exact bodyPost_ret (v := outA (.slice none 0 0) (.slice none 0 0) ByteArray.empty 0 9) (by simp [results, Try.results11, go_sem, r0, r1, r2, r3, r4]; rfl) rfl (told_set5 (o := illA 9) (own_zero _ w.heap.size w.heap.size) (bT HB0.out HB1.out) (Nat.le_refl _) (by omega) (.inr (by omega)) (by omega))
  · rw [formatO_ok hr h3]
    clear hr
    have h3i : ¬ (ls.length : Int) < 3 := by omega
    have hhd := headB_size 0 0 0
    have KH : Hid (∀ W, Calls Try.prog 31 #[.agg #[.int .i64 0, .int .i64 0, .int .i64 0]] W fun e w' => ∃ v, e = .returned v ∧ Steps w' v [(false, 0, headB 0 0 0), (true, 0, ByteArray.empty)] ∧ Below W.heap.size W w') := fun W => headSteps_any 0 0 0 W (by omega) (by omega) (by omega) (by omega) (by omega) (by omega)
    have KT : Hid (∀ W v, Below W0.heap.size W0 W → Steps W v [(false, 0, headB 0 0 0), (true, 0, ByteArray.empty)] → Calls Try.prog 30 #[.agg #[.slice va ls.length ca, vp], v] W fun e w' => ToldA W (runO ls lp [(false, 0, headB 0 0 0), (true, 0, ByteArray.empty)]) e w') := fun W v hb hv => takeSteps_any _ vp v ls lp _ W (HS.out.below hb) (HP.out.below hb) HF.out hv (by simp) (by intro y hy; simp at hy; rcases hy with rfl | rfl; (simp only; omega); simp)
    generalize headB 0 0 0 = hd at *
    generalize runO ls lp [(false, 0, hd), (true, 0, ByteArray.empty)] = o at *
    generalize ([(false, 0, hd), (true, 0, ByteArray.empty)] : List Step) = σ at *
    go_enter Try.func11, Try.ntmps11
    go_wp2_with (go_at_call 22; rw [← hW0]; clear hW0; refine K1.out.mono ?_; rintro e w1 ⟨rfl, hb1⟩; have hz := hb1.size; have hz0 := HZ.out; have HR1 : Hid _ := BoxA.below HR.out hb1 (by omega); obtain ⟨x0, x1, _⟩ := Box2.cells (Box2.below HX.out hb1 (by omega)); have HX1 : Hid _ := Box2.below HX.out hb1 (by omega); have HB1 : Hid _ := hb1; clear hb1)
    have NB : Hid (Below w1.heap.size w1 w1) := Below.refl _ _
    have KC : Hid (∀ W, Below w1.heap.size w1 W → W.cell? ⟨w.heap.size, 0, none⟩ = some (.slice va ls.length ca) ∧ W.cell? ⟨w.heap.size, 1, none⟩ = some vp) := fun W hb => ⟨(Box2.cells (Box2.below HX1.out hb (by omega))).1, (Box2.cells (Box2.below HX1.out hb (by omega))).2.1⟩
    have kQ := KC.out _ NB.out
    clear x0 x1
    go_region_held3 (fun W => W.cell? ⟨w.heap.size, 0, none⟩ = some (.slice va ls.length ca) ∧ W.cell? ⟨w.heap.size, 1, none⟩ = some vp)
      (first
        | (refine ⟨?_, ?_⟩; (rw [World.cell?_setCell_other _ _ _ _ (by intro e; injection e with e _ _; omega), World.cell?_setCell_other _ _ _ _ (by intro e; injection e with e _ _; omega), World.cell?_setCell_other _ _ _ _ (by intro e; injection e with e _ _; omega), World.cell?_setCell_other _ _ _ _ (by intro e; injection e with e _ _; omega), World.cell?_setCell_other _ _ _ _ (by intro e; injection e with e _ _; omega)]; exact kQ.1); (rw [World.cell?_setCell_other _ _ _ _ (by intro e; injection e with e _ _; omega), World.cell?_setCell_other _ _ _ _ (by intro e; injection e with e _ _; omega), World.cell?_setCell_other _ _ _ _ (by intro e; injection e with e _ _; omega), World.cell?_setCell_other _ _ _ _ (by intro e; injection e with e _ _; omega), World.cell?_setCell_other _ _ _ _ (by intro e; injection e with e _ _; omega)]; exact kQ.2))
        | exact kQ)
      (first
        | (go_at_call 31; refine (KH.out _).mono ?_; rintro e u ⟨v, rfl, hst, hb⟩; have HST : Hid _ := hst; have NB : Hid (Below w1.heap.size w1 u) := bT (by repeat' (first | exact NB.out | apply bD)) hb; clear kQ; have kQ := KC.out _ NB.out; clear hb hst)
        | (go_at_call 30; refine (KT.out _ v (by refine bT HB1.out ?_; repeat' (first | exact NB.out | apply bD)) (by refine Steps.below HST.out ?_; repeat' (first | exact Below.refl _ _ | apply bD))).mono ?_; rintro e u2 ⟨us, up, rfl, ho, hb⟩; obtain ⟨va2, ca2, vb2, cb2, rfl, rfl⟩ := ho.shape; have HO : Hid _ := ho.wide (lo' := w1.heap.size) (by apply Below.size; repeat' (first | exact NB.out | apply bD)) (Nat.le_refl _); have NB2 : Hid (Below w1.heap.size w1 u2) := bT (by repeat' (first | exact NB.out | apply bD)) hb; have hzu := NB2.out.size; clear kQ; have kQ := KC.out _ NB2.out; have HR2 : Hid _ := BoxA.below HR1.out NB2.out (by omega); obtain ⟨r0, r1, r2, r3, r4⟩ := BoxA.cells HR2.out; have rf := BoxA.frozen HR2.out; clear hb ho))
    go_wp2_with fail
    exact bodyPost_ret (v := outA (.slice va2 o.ls.length ca2) (.slice vb2 o.lp.length cb2) o.t o.g o.c) (by simp [results, Try.results11, go_sem, r0, r1, r2, r3, r4]) rfl (told_set5 HO.out (bT (bT HB0.out HB1.out) NB2.out) (by omega) (Nat.le_refl _) (.inl (by omega)) (by omega))
end Go.Proofs.Ytncooabjacpjbaa.Disk
