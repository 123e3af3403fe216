/- The program's AreaRead. -/
import Derived.Test.YtkigmpeanllimaaGreatDoorTextsG
namespace Go.Proofs.YtkigmpeanllimaaGreatDoor.Disk
open Go.RowKit Go.Proofs.YtkigmpeanllimaaGreatDoor.Mem Go.Proofs.YtkigmpeanllimaaGreatDoor.Harn Go.Proofs.YtkigmpeanllimaaGreatDoor.DiskP Go.Proofs.YtkigmpeanllimaaGreatDoor.Sent

set_option maxRecDepth 100000 in
set_option maxHeartbeats 4000000 in
theorem implARead_any (A : Nat → Addr) (vs vp : Value) (ls : List ByteArray) (lp : List (Int × ByteArray)) (w : World) (hs : Strs w vs ls) (hp : Pends w vp lp) (hf : Fits ls lp) (hS : SentsLaid w A sentL) (hL : GetNum.Laid w) :
    Calls Tryz.prog 8 #[.agg #[vs, vp]] w fun e w' => ToldA w (readAO ls lp) e w' := by
  obtain ⟨W0, hW0⟩ : ∃ W0, W0 = (w.alloc (.cells #[vs, vp] 26)).alloc (.cells #[.slice none 0 0, .slice none 0 0, .string { data := #[] }, .int .i64 0, .int .i64 0] 31) := ⟨_, rfl⟩
  have HB0 : Hid (Below w.heap.size w W0) := by rw [hW0]; exact bA (bself _) _
  have HZ : Hid (W0.heap.size = w.heap.size + 2) := by rw [hW0]; simp [Hid]
  have HR : Hid (BoxA W0 (w.heap.size + 1) (.slice none 0 0) (.slice none 0 0) ByteArray.empty 0 0) := by rw [hW0]; exact Sha.row_new_at (w.alloc _) [.slice none 0 0, .slice none 0 0, .string ByteArray.empty, .int .i64 0, .int .i64 0] 31 _ (by simp)
  have HX : Hid (Box2 W0 w.heap.size vs vp) := by rw [hW0]; exact Sha.row_alloc (Sha.row_new w [vs, vp] 26) _
  have HS : Hid (Strs W0 vs ls) := hs.below HB0.out
  have HP : Hid (Pends W0 vp lp) := hp.below HB0.out
  have HF : Hid (Fits ls lp) := hf
  have HSL : Hid (SentsLaid W0 A sentL) := hS.below HB0.out
  have K1 : Hid (Calls Tryz.prog 26 #[.agg #[vs, vp]] W0 fun e w' => e = .returned (.tuple #[headV (areaR ls lp).1.1 (areaR ls lp).1.2.1 (areaR ls lp).1.2.2, .string (areaR ls lp).2.1, errV A (areaR ls lp).2.2]) ∧ Below W0.heap.size W0 w') := readArea_any A vs vp ls lp W0 HS.out HP.out hf HSL.out (GetNum.laid_below hL HB0.out)
  have hz0 := HZ.out
  clear hs hp hf hS hL
  rcases areaR_cases ls lp with ⟨g, s, n, t, hr, hA, hO, _⟩ | ⟨g, s, n, t, ge, hA, hO, hge, hc0⟩
  · rw [hO]
    have K2 : Hid (Calls Tryz.prog 26 #[.agg #[vs, vp]] W0 fun e w' => e = .returned (.tuple #[headV g s n, .string t, .nilIface]) ∧ Below W0.heap.size W0 w') := by have h := K1.out; rw [hA] at h; exact h
    clear K1 hA hO hr
    go_enter Tryz.func8, Tryz.ntmps8
    go_wp2_with fail
    rw [← hW0]
    clear hW0
    refine K2.out.mono ?_
    rintro e u ⟨rfl, hb⟩
    obtain ⟨W1, hW1⟩ : ∃ W1, W1 = u.alloc (.cells #[.int .i64 g, .int .i64 (s : Int), .int .i64 (n : Int)] 49) := ⟨_, rfl⟩
    have HB1 : Hid (Below W0.heap.size W0 W1) := by rw [hW1]; exact bA hb _
    have HY1 : Hid (BoxH W1 u.heap.size g s n) := by rw [hW1]; exact Sha.row_new u [.int .i64 g, .int .i64 (s : Int), .int .i64 (n : Int)] 49
    have hzu := hb.size
    have hz1 : W1.heap.size = u.heap.size + 1 := by rw [hW1]; simp
    clear hb
    go_wp2_with fail
    rw [← hW1]
    clear hW1
    have NB : Hid (Below W1.heap.size W1 W1) := Below.refl _ _
    have KC : Hid (∀ W, Below W1.heap.size W1 W → W.cell? ⟨w.heap.size, 0, none⟩ = some vs ∧ W.cell? ⟨w.heap.size, 1, none⟩ = some vp ∧ W.cell? ⟨u.heap.size, 0, none⟩ = some (.int .i64 g)) := fun W hb => by
      have h := Box2.cells (Box2.below HX.out (bT HB1.out hb) (by omega))
      exact ⟨h.1, h.2.1, (BoxH.cells (BoxH.below HY1.out hb (by omega))).1⟩
    have KC5 : Hid (∀ W, Below W1.heap.size W1 W → ∀ v0 v1 v2 v3 v4 : Value, (((((W.setCell ⟨w.heap.size + 1, 0, none⟩ v0).setCell ⟨w.heap.size + 1, 1, none⟩ v1).setCell ⟨w.heap.size + 1, 2, none⟩ v2).setCell ⟨w.heap.size + 1, 3, none⟩ v3).setCell ⟨w.heap.size + 1, 4, none⟩ v4).cell? ⟨w.heap.size, 0, none⟩ = some vs ∧ (((((W.setCell ⟨w.heap.size + 1, 0, none⟩ v0).setCell ⟨w.heap.size + 1, 1, none⟩ v1).setCell ⟨w.heap.size + 1, 2, none⟩ v2).setCell ⟨w.heap.size + 1, 3, none⟩ v3).setCell ⟨w.heap.size + 1, 4, none⟩ v4).cell? ⟨w.heap.size, 1, none⟩ = some vp ∧ (((((W.setCell ⟨w.heap.size + 1, 0, none⟩ v0).setCell ⟨w.heap.size + 1, 1, none⟩ v1).setCell ⟨w.heap.size + 1, 2, none⟩ v2).setCell ⟨w.heap.size + 1, 3, none⟩ v3).setCell ⟨w.heap.size + 1, 4, none⟩ v4).cell? ⟨u.heap.size, 0, none⟩ = some (.int .i64 g)) := fun W hb v0 v1 v2 v3 v4 => by
      have ho := onlyA_set5 (W := W) (b := w.heap.size + 1) (v0 := v0) (v1 := v1) (v2 := v2) (v3 := v3) (v4 := v4)
      have h := Box2.cells (Only.row ho (Box2.below HX.out (bT HB1.out hb) (by omega)) (fun e => by omega))
      exact ⟨h.1, h.2.1, (BoxH.cells (Only.row ho (BoxH.below HY1.out hb (by omega)) (fun e => by omega))).1⟩
    go_region_held3 (fun W => W.cell? ⟨w.heap.size, 0, none⟩ = some vs ∧ W.cell? ⟨w.heap.size, 1, none⟩ = some vp ∧ W.cell? ⟨u.heap.size, 0, none⟩ = some (.int .i64 g))
      (first
        | (refine KC.out _ ?_; (repeat' (first | exact NB.out | apply bD)); done)
        | (refine KC5.out _ ?_ _ _ _ _ _; (repeat' (first | exact NB.out | apply bD)); done))
      (first
        | (go_at_call 28; refine (copyDisk_any vs vp ls lp _ (HS.out.below (bT HB1.out (by repeat' (first | exact NB.out | apply bD)))) (HP.out.below (bT HB1.out (by repeat' (first | exact NB.out | apply bD)))) HF.out.n HF.out.m HF.out.t2 HF.out.y2).mono ?_; rintro e v ⟨us, up, rfl, ho, hb⟩; have NB : Hid (Below W1.heap.size W1 v) := bT (by repeat' (first | exact NB.out | apply bD)) hb; have HO : Hid (Own v W1.heap.size v.heap.size us up ls lp) := ho; obtain ⟨va, ca, vb, cb, rfl, rfl⟩ := ho.shape; have hzv := NB.out.size; obtain ⟨r0, r1, r2, r3, r4⟩ := BoxA.cells (BoxA.below HR.out (bT HB1.out NB.out) (by omega)); have rf := BoxA.frozen (BoxA.below HR.out (bT HB1.out NB.out) (by omega)); clear ho hb))
    go_wp2_with fail
    exact bodyPost_ret (v := outA (.slice va ls.length ca) (.slice vb lp.length cb) t g 0) (by simp [results, Tryz.results8, go_sem, r0, r1, r2, r3, r4]) rfl (told_set5 (o := ⟨ls, lp, t, g, 0⟩) HO.out (bT (bT HB0.out HB1.out) NB.out) (by omega) (Nat.le_refl _) (.inl (by omega)) (by omega))
  · rw [hO]
    have K2 : Hid (Calls Tryz.prog 26 #[.agg #[vs, vp]] W0 fun e w' => e = .returned (.tuple #[headV g s n, .string t, .iface 157 (.pointer (some (A ge)))]) ∧ Below W0.heap.size W0 w') := by have h := K1.out; rw [hA] at h; exact h
    have KA : Hid (∀ W, Below W0.heap.size W0 W → Calls Tryz.prog 27 #[.iface 157 (.pointer (some (A ge)))] W fun e w' => e = .returned (.int .i64 (codeE (some ge))) ∧ W = w') := fun W hb => areaCode_any A (some ge) W (HSL.out.below hb) (fun k hk => by cases hk; exact hge)
    clear K1 hA hO
    generalize codeE (some ge) = cd at *
    go_enter Tryz.func8, Tryz.ntmps8
    go_wp2_with fail
    rw [← hW0]
    clear hW0
    refine K2.out.mono ?_
    rintro e u ⟨rfl, hb⟩
    obtain ⟨W1, hW1⟩ : ∃ W1, W1 = u.alloc (.cells #[.int .i64 g, .int .i64 s, .int .i64 n] 49) := ⟨_, rfl⟩
    have HB1 : Hid (Below W0.heap.size W0 W1) := by rw [hW1]; exact bA hb _
    have hzu := hb.size
    have hz1 : W1.heap.size = u.heap.size + 1 := by rw [hW1]; simp
    obtain ⟨r0, r1, r2, r3, r4⟩ := BoxA.cells (BoxA.below HR.out HB1.out (by omega))
    have rf := BoxA.frozen (BoxA.below HR.out HB1.out (by omega))
    clear hb
    go_wp2_with fail
    rw [← hW1]
    clear hW1
    refine (KA.out _ HB1.out).mono ?_
    rintro e u2 ⟨rfl, rfl⟩
    go_wp2_with fail
    exact bodyPost_ret (v := outA (.slice none 0 0) (.slice none 0 0) ByteArray.empty 0 cd) (by simp [results, Tryz.results8, go_sem, r0, r1, r2, r3, r4]; rfl) rfl (told_set5 (o := illA cd) (own_zero _ w.heap.size w.heap.size) (bT HB0.out HB1.out) (Nat.le_refl _) (by omega) (.inr (by omega)) (by omega))
end Go.Proofs.YtkigmpeanllimaaGreatDoor.Disk
