/- The model's AreaFormat. -/
import Derived.Test.YtkigmpeanllimaaGreatDoorTextsF
import Derived.Test.YtkigmpeanllimaaGreatDoorTextsE
import Derived.Test.YtkigmpeanllimaaGreatDoorSpecWrite
import Derived.Test.YtkigmpeanllimaaGreatDoorSpecFlush
import Derived.Deep.DeepCutAuto
namespace Go.Proofs.YtkigmpeanllimaaGreatDoor.Disk
open Go.RowKit Go.Proofs.YtkigmpeanllimaaGreatDoor.Mem Go.Proofs.YtkigmpeanllimaaGreatDoor.Harn Go.Proofs.YtkigmpeanllimaaGreatDoor.DiskP

theorem format_no {ls : List ByteArray} {lp : List (Int × ByteArray)} (h : rightB ls lp = true) (h2 : ¬ ls.length < 3) (h3 : (writeO ls lp 0 (headB 0 0 0)).c ≠ 0) : formatO ls lp = illA (writeO ls lp 0 (headB 0 0 0)).c := by
  rw [formatO_ok h h2]
  exact if_neg h3
theorem format_yes {ls : List ByteArray} {lp : List (Int × ByteArray)} (h : rightB ls lp = true) (h2 : ¬ ls.length < 3) (h3 : (writeO ls lp 0 (headB 0 0 0)).c = 0) : formatO ls lp = ⟨(flushO (writeO ls lp 0 (headB 0 0 0)).ls (writeO ls lp 0 (headB 0 0 0)).lp).ls, (flushO (writeO ls lp 0 (headB 0 0 0)).ls (writeO ls lp 0 (headB 0 0 0)).lp).lp, ByteArray.empty, 0, (flushO (writeO ls lp 0 (headB 0 0 0)).ls (writeO ls lp 0 (headB 0 0 0)).lp).c⟩ := by
  have hr := (writeO_wrote ls lp 0 (headB 0 0 0)).r h3
  rw [formatO_ok h h2]
  have e : runO ls lp [(false, 0, headB 0 0 0), (true, 0, ByteArray.empty)] = runO (writeO ls lp 0 (headB 0 0 0)).ls (writeO ls lp 0 (headB 0 0 0)).lp [(true, 0, ByteArray.empty)] := if_pos h3
  rw [e]
  generalize writeO ls lp 0 (headB 0 0 0) = x at *
  have hc : (flushO x.ls x.lp).c = 0 := by rw [flushO_ok hr]
  have e2 : runO x.ls x.lp [(true, 0, ByteArray.empty)] = runO (flushO x.ls x.lp).ls (flushO x.ls x.lp).lp [] := if_pos hc
  rw [e2, hc]
  rfl

/-- What a call told lies in a box. -/
def RelX (w1 : World) (ol : List ByteArray) (op : List (Int × ByteArray)) (ot : ByteArray) (oc : Int) (y : Value) (wc : World) : Prop := ∃ gx va ca vb cb, y = .pointer (some ⟨gx, 0, none⟩) ∧ BoxO wc gx (.slice va ol.length ca) (.slice vb op.length cb) ot oc ∧ Strs wc (.slice va ol.length ca) ol ∧ Pends wc (.slice vb op.length cb) op ∧ Below w1.heap.size w1 wc ∧ gx < wc.heap.size
theorem relX_new {w1 u2 : World} {ol : List ByteArray} {op : List (Int × ByteArray)} {ot : ByteArray} {oc : Int} {va vb : Option Addr} {ca cb lo : Nat} (ho : Own u2 lo u2.heap.size (.slice va ol.length ca) (.slice vb op.length cb) ol op) (hb : Below w1.heap.size w1 u2) :
    RelX w1 ol op ot oc (.pointer (some ⟨u2.heap.size, 0, none⟩)) (u2.alloc (.cells #[.slice va ol.length ca, .slice vb op.length cb, .string ot, .int .i64 oc] 69)) :=
  ⟨_, va, ca, vb, cb, rfl, boxO_at u2 _ _ _ _, ho.strs.below (bself _), ho.pends.below (bself _), bA hb _, by simp⟩
theorem relX_set {w1 u2 : World} {gx lo : Nat} {ol : List ByteArray} {op : List (Int × ByteArray)} {ot : ByteArray} {oc : Int} {va vb : Option Addr} {ca cb : Nat} (ho : Own u2 lo u2.heap.size (.slice va ol.length ca) (.slice vb op.length cb) ol op) (hb : Below w1.heap.size w1 u2) (h4 : Box4 u2 gx) (h1 : w1.heap.size ≤ gx) (h2 : gx < lo) (h3 : lo ≤ u2.heap.size) :
    RelX w1 ol op ot oc (.pointer (some ⟨gx, 0, none⟩)) ((((u2.setCell ⟨gx, 0, none⟩ (.slice va ol.length ca)).setCell ⟨gx, 1, none⟩ (.slice vb op.length cb)).setCell ⟨gx, 2, none⟩ (.string ot)).setCell ⟨gx, 3, none⟩ (.int .i64 oc)) := by
  have ho2 := ho.only (onlyA_set4 (W := u2) (b := gx) (v0 := .slice va ol.length ca) (v1 := .slice vb op.length cb) (v2 := .string ot) (v3 := .int .i64 oc)) (fun k h5 h6 e => by omega)
  exact ⟨_, va, ca, vb, cb, rfl, boxA_set4 h4, ho2.strs, ho2.pends, onlyA_set4.below hb hb.size (fun k h5 e => by omega), by simp; omega⟩

set_option maxRecDepth 100000 in
set_option maxHeartbeats 4000000 in
theorem specFormat_any (vs vp : Value) (ls : List ByteArray) (lp : List (Int × ByteArray)) (w : World) (hs : Strs w vs ls) (hp : Pends w vp lp) (hf : Fits ls lp) :
    Calls Tryz.prog 14 #[.agg #[vs, vp]] w fun e w' => ToldA w (formatO ls lp) e w' := by
  obtain ⟨va, ca, rfl, hsv⟩ := id hs
  clear hsv
  obtain ⟨W0, hW0⟩ : ∃ W0, W0 = (w.alloc (.cells #[.slice va ls.length ca, vp] 26)).alloc (.cells #[.slice none 0 0, .slice none 0 0, .string { data := #[] }, .int .i64 0, .int .i64 0] 31) := ⟨_, rfl⟩
  have HB0 : Hid (Below w.heap.size w W0) := by rw [hW0]; exact bA (bself _) _
  have HZ : Hid (W0.heap.size = w.heap.size + 2) := by rw [hW0]; simp [Hid]
  have HR : Hid (BoxA W0 (w.heap.size + 1) (.slice none 0 0) (.slice none 0 0) ByteArray.empty 0 0) := by rw [hW0]; exact Sha.row_new_at (w.alloc _) [.slice none 0 0, .slice none 0 0, .string ByteArray.empty, .int .i64 0, .int .i64 0] 31 _ (by simp)
  have HX : Hid (Box2 W0 w.heap.size (.slice va ls.length ca) vp) := by rw [hW0]; exact Sha.row_alloc (Sha.row_new w [.slice va ls.length ca, vp] 26) _
  have HS : Hid (Strs W0 (.slice va ls.length ca) ls) := hs.below HB0.out
  have HP : Hid (Pends W0 vp lp) := hp.below HB0.out
  have HF : Hid (Fits ls lp) := hf
  have K1 : Hid (Calls Tryz.prog 36 #[.agg #[.slice va ls.length ca, vp]] W0 fun e w' => e = .returned (.bool (rightB ls lp)) ∧ Below W0.heap.size W0 w') := specRight_any _ vp ls lp W0 HS.out HP.out hf.n hf.m hf.t hf.y
  clear hs hp hf
  cases hr : rightB ls lp
  · rw [formatO_form hr]
    rw [hr] at K1
    clear hr
    go_enter Tryz.func14, Tryz.ntmps14
    go_wp2_with (first
      | (go_at_call 36; rw [← hW0]; clear hW0; refine K1.out.mono ?_; rintro e w1 ⟨rfl, hb1⟩; have HB1 : Hid _ := hb1; clear hb1)
      | (go_at_call 37; refine (illA_any 1 _).mono ?_; rintro e w2 ⟨rfl, hb2⟩; have NB : Hid _ := bT HB1.out hb2; have hz := NB.out.size; have hz0 := HZ.out; have HR1 : Hid _ := BoxA.below HR.out NB.out (by omega); obtain ⟨r0, r1, r2, r3, r4⟩ := BoxA.cells HR1.out; have rf := BoxA.frozen HR1.out; clear hb2))
    exact bodyPost_ret (v := outA (.slice none 0 0) (.slice none 0 0) ByteArray.empty 0 1) (by simp [results, Tryz.results14, go_sem, r0, r1, r2, r3, r4]) rfl (told_set5 (o := illA 1) (own_zero _ w.heap.size w.heap.size) (bT HB0.out NB.out) (Nat.le_refl _) (by omega) (.inr (by omega)) (by omega))
  rw [hr] at K1
  by_cases h3 : ls.length < 3
  · rw [formatO_full hr h3]
    clear hr
    have h3i : (ls.length : Int) < 3 := by omega
    go_enter Tryz.func14, Tryz.ntmps14
    go_wp2_with (first
      | (go_at_call 36; rw [← hW0]; clear hW0; refine K1.out.mono ?_; rintro e w1 ⟨rfl, hb1⟩; obtain ⟨x0, x1, _⟩ := Box2.cells (Box2.below HX.out hb1 (by have := HZ.out; omega)); have HB1 : Hid _ := hb1; clear hb1)
      | (go_at_call 37; refine (illA_any 9 _).mono ?_; rintro e w2 ⟨rfl, hb2⟩; have NB : Hid _ := bT HB1.out hb2; have hz := NB.out.size; have hz0 := HZ.out; have HR1 : Hid _ := BoxA.below HR.out NB.out (by omega); obtain ⟨r0, r1, r2, r3, r4⟩ := BoxA.cells HR1.out; have rf := BoxA.frozen HR1.out; clear hb2))
    exact bodyPost_ret (v := outA (.slice none 0 0) (.slice none 0 0) ByteArray.empty 0 9) (by simp [results, Tryz.results14, go_sem, r0, r1, r2, r3, r4]) rfl (told_set5 (o := illA 9) (own_zero _ w.heap.size w.heap.size) (bT HB0.out NB.out) (Nat.le_refl _) (by omega) (.inr (by omega)) (by omega))
  · have h3i : ¬ (ls.length : Int) < 3 := by omega
    have hhd := headB_size 0 0 0
    have HNO : Hid ((writeO ls lp 0 (headB 0 0 0)).c ≠ 0 → formatO ls lp = illA (writeO ls lp 0 (headB 0 0 0)).c) := format_no hr h3
    have HYES : Hid ((writeO ls lp 0 (headB 0 0 0)).c = 0 → formatO ls lp = ⟨(flushO (writeO ls lp 0 (headB 0 0 0)).ls (writeO ls lp 0 (headB 0 0 0)).lp).ls, (flushO (writeO ls lp 0 (headB 0 0 0)).ls (writeO ls lp 0 (headB 0 0 0)).lp).lp, ByteArray.empty, 0, (flushO (writeO ls lp 0 (headB 0 0 0)).ls (writeO ls lp 0 (headB 0 0 0)).lp).c⟩) := format_yes hr h3
    have HWF : Hid (Fits (writeO ls lp 0 (headB 0 0 0)).ls (writeO ls lp 0 (headB 0 0 0)).lp) := (writeO_wrote ls lp 0 (headB 0 0 0)).f
    clear hr
    have KH : Hid (∀ W, Calls Tryz.prog 45 #[.int .i64 0, .int .i64 0, .int .i64 0] W fun e w' => e = .returned (.string (headB 0 0 0)) ∧ Below W.heap.size W w') := fun W => specHead_any 0 0 0 W (by omega) (by omega) (by omega) (by omega) (by omega) (by omega)
    have KT : Hid (∀ W, Below W0.heap.size W0 W → Calls Tryz.prog 44 #[.agg #[.slice va ls.length ca, vp], .int .i64 0, .string (headB 0 0 0)] W fun e w' => Told W (writeO ls lp 0 (headB 0 0 0)) e w') := fun W hb => specWrite_any _ vp ls lp 0 _ W (HS.out.below hb) (HP.out.below hb) (by omega) HF.out.n HF.out.m HF.out.t HF.out.y
    generalize writeO ls lp 0 (headB 0 0 0) = o at *
    generalize formatO ls lp = fo at *
    generalize headB 0 0 0 = hd at *
    obtain ⟨ol, op, ot, oc⟩ := o
    go_enter Tryz.func14, Tryz.ntmps14
    go_wp2_with (go_at_call 36; rw [← hW0]; clear hW0; refine K1.out.mono ?_; rintro e w1 ⟨rfl, hb1⟩; have hz := hb1.size; have hz0 := HZ.out; have HR1 : Hid _ := BoxA.below HR.out hb1 (by omega); obtain ⟨x0, x1, _⟩ := Box2.cells (Box2.below HX.out hb1 (by omega)); have HX1 : Hid _ := Box2.below HX.out hb1 (by omega); have HB1 : Hid _ := hb1; clear hb1)
    have NB : Hid (Below w1.heap.size w1 w1) := Below.refl _ _
    have KC : Hid (∀ W, Below w1.heap.size w1 W → W.cell? ⟨w.heap.size, 0, none⟩ = some (.slice va ls.length ca) ∧ W.cell? ⟨w.heap.size, 1, none⟩ = some vp) := fun W hb => ⟨(Box2.cells (Box2.below HX1.out hb (by omega))).1, (Box2.cells (Box2.below HX1.out hb (by omega))).2.1⟩
    have kQ := KC.out _ NB.out
    clear x0 x1
    obtain ⟨c0, c1⟩ := kQ
    go_cut [3] (fun y wc => RelX w1 ol op ot oc y wc)
    case first =>
      go_region_held3 (fun w' => w'.cell? ⟨w.heap.size, 0, none⟩ = some (.slice va ls.length ca) ∧ w'.cell? ⟨w.heap.size, 1, none⟩ = some vp)
        (first
          | (go_split_ands; refine ⟨?_, ?_⟩ <;> (first | exact c0 | exact c1))
          | (go_keep; done)
          | (go_split_ands; refine ⟨?_, ?_⟩ <;> (rw [cellA_far4 (by omega) (by omega)]; first | exact c0 | exact c1)))
        (first
          | (go_at_call 45; refine (KH.out _).mono ?_; rintro e u ⟨rfl, hb⟩; have NB : Hid (Below w1.heap.size w1 u) := bT (by repeat' (first | exact NB.out | apply bD | apply bA)) hb; have hzu := NB.out.size; clear c0 c1; obtain ⟨c0, c1⟩ := KC.out _ NB.out; (first | (have zz : Box4 u w1.heap.size := Only.row (Only.of_below (fun _ => False) hb) (Sha.row_new w1 [.slice none 0 0, .slice none 0 0, .string ByteArray.empty, .int .i64 0] 69) (fun h => h); have hzz : w1.heap.size < u.heap.size := (by have := hb.size; simp at this; omega); obtain ⟨y0, y1, y2, y3, yf⟩ := Box4.cells zz) | skip); clear hb)
          | (go_at_call 44; refine (KT.out _ (by refine bT HB1.out ?_; repeat' (first | exact NB.out | apply bD | apply bA))).mono ?_; rintro e u2 ⟨us, up, rfl, ho, hb⟩; dsimp only at ho; obtain ⟨va2, ca2, vb2, cb2, rfl, rfl⟩ := ho.shape; have HO : Hid _ := ho; have NB2 : Hid (Below w1.heap.size w1 u2) := bT (by repeat' (first | exact NB.out | apply bD | apply bA)) hb; have hzu2 := NB2.out.size; clear c0 c1; obtain ⟨c0, c1⟩ := KC.out _ NB2.out; (first | (have zz' : Box4 u2 w1.heap.size := Only.row (Only.of_below (fun _ => False) hb) zz (fun h => h); clear zz y0 y1 y2 y3 yf; have zz := zz'; obtain ⟨y0, y1, y2, y3, yf⟩ := Box4.cells zz) | (have zz : Box4 u2 u.heap.size := Only.row (Only.of_below (fun _ => False) hb) (Sha.row_new u [.slice none 0 0, .slice none 0 0, .string ByteArray.empty, .int .i64 0] 69) (fun h => h); obtain ⟨y0, y1, y2, y3, yf⟩ := Box4.cells zz) | skip); have HZB : Hid _ := hb.size; clear hb ho))
      all_goals go_wp2_with fail
      all_goals go_meet
      all_goals first
        | exact relX_new HO.out NB2.out
        | exact relX_set HO.out NB2.out zz (by omega) (by first | omega | (simp only [World.size_alloc]; omega) | (simp; omega)) (by first | exact HZB.out | omega)
    case rest =>
      clear c0 c1 NB
      obtain ⟨gx, va2, ca2, vb2, cb2, rfl, hy, hys, hyp, hyb, hyz⟩ := hcut
      obtain ⟨y0, y1, y2, y3⟩ := BoxO.cells hy
      have HYS : Hid _ := hys
      have HYP : Hid _ := hyp
      have HYB : Hid _ := hyb
      have hzc := hyb.size
      have HRc : Hid _ := BoxA.below HR1.out hyb (by omega)
      clear hy hys hyp hyb
      by_cases hoc : oc = 0
      · have hob : (oc != 0) = false := by simp [hoc]
        have HFO : Hid _ := HYES.out hoc
        have K8 : Hid (Calls Tryz.prog 46 #[.agg #[.slice va2 ol.length ca2, .slice vb2 op.length cb2]] wc fun e w' => Told wc (flushO ol op) e w') := specFlush_any _ _ ol op wc HYS.out HYP.out HWF.out.n HWF.out.m HWF.out.t HWF.out.y
        clear hoc
        generalize flushO ol op = f at *
        obtain ⟨fl, fp, ft, fc⟩ := f
        go_wp2_with fail
        refine K8.out.mono ?_
        rintro e u2 ⟨us, up, rfl, ho, hb⟩
        dsimp only at ho
        obtain ⟨va3, ca3, vb3, cb3, rfl, rfl⟩ := ho.shape
        have hz2 := hb.size
        have hq3 : w.heap.size + 1 < u2.heap.size := by omega
        have HR2 : Hid _ := BoxA.below HRc.out hb (by omega)
        obtain ⟨r0, r1, r2, r3, r4⟩ := BoxA.cells HR2.out
        have rf := BoxA.frozen HR2.out
        have HO : Hid _ := ho
        have HBU : Hid _ := bT (bT (bT HB0.out HB1.out) HYB.out) hb
        clear ho hb
        go_wp2_with fail
        exact bodyPost_ret (v := outA (.slice va3 fl.length ca3) (.slice vb3 fp.length cb3) ByteArray.empty 0 fc) (by simp [results, Tryz.results14, go_sem, r0, r1, r2, r3, r4, hq3]; rfl) rfl (by rw [HFO.out]; exact ToldA.alloc (told_set5 (o := ⟨fl, fp, ByteArray.empty, 0, fc⟩) HO.out HBU.out (by omega) (Nat.le_refl _) (.inl (by omega)) (by omega)) _)
      · have hob : (oc != 0) = true := by simp [hoc]
        have HFO : Hid _ := HNO.out hoc
        clear hoc
        go_wp2_with fail
        refine (illA_any oc _).mono ?_
        rintro e u2 ⟨rfl, hb⟩
        have hz2 := hb.size
        have HR2 : Hid _ := BoxA.below HRc.out hb (by omega)
        obtain ⟨r0, r1, r2, r3, r4⟩ := BoxA.cells HR2.out
        have rf := BoxA.frozen HR2.out
        have HBU : Hid _ := bT (bT (bT HB0.out HB1.out) HYB.out) hb
        clear hb
        go_wp2_with fail
        exact bodyPost_ret (v := outA (.slice none 0 0) (.slice none 0 0) ByteArray.empty 0 oc) (by simp [results, Tryz.results14, go_sem, r0, r1, r2, r3, r4]) rfl (by rw [HFO.out]; exact told_set5 (o := illA oc) (own_zero _ w.heap.size w.heap.size) HBU.out (Nat.le_refl _) (by omega) (.inr (by omega)) (by omega))
end Go.Proofs.YtkigmpeanllimaaGreatDoor.Disk
