/- The program's look at an area. -/
import Derived.Test.YtkigmpeanllimaaGreatDoorImplHead
import Derived.Test.YtkigmpeanllimaaGreatDoorImplSide
import Derived.Test.YtkigmpeanllimaaGreatDoorTextsF
import Derived.Deep.DeepCutAuto
namespace Go.Proofs.YtkigmpeanllimaaGreatDoor.Disk
open Go.RowKit Go.Proofs.YtkigmpeanllimaaGreatDoor.Mem Go.Proofs.YtkigmpeanllimaaGreatDoor.Harn Go.Proofs.YtkigmpeanllimaaGreatDoor.DiskP Go.Proofs.YtkigmpeanllimaaGreatDoor.Sent

/-- The text of the side that the head names. -/
def sideO (ls : List ByteArray) (lp : List (Int × ByteArray)) : Option ByteArray := sideK (readD ls lp) (halfN ls) (firstN ls (seenO ls lp).2.1.toNat) (seenO ls lp).2.2.1.toNat
/-- What readArea tells: the head, the text, the error. -/
def areaR (ls : List ByteArray) (lp : List (Int × ByteArray)) : (Int × Int × Int) × ByteArray × Option Nat :=
  if rightB ls lp = true then (if (seenO ls lp).2.2.2 = 0 then (((seenO ls lp).1, (seenO ls lp).2.1, (seenO ls lp).2.2.1), sideT (sideO ls lp), sideE (sideO ls lp)) else ((0, 0, 0), ByteArray.empty, errOf (seenO ls lp).2.2.2)) else ((0, 0, 0), ByteArray.empty, some 0)
theorem areaR_form {ls : List ByteArray} {lp : List (Int × ByteArray)} (h : rightB ls lp = false) : areaR ls lp = ((0, 0, 0), ByteArray.empty, some 0) := by unfold areaR; rw [h]; rfl
theorem areaR_code {ls : List ByteArray} {lp : List (Int × ByteArray)} {g s n c : Int} (h : rightB ls lp = true) (h2 : seenO ls lp = (g, s, n, c)) (hc : c ≠ 0) : areaR ls lp = ((0, 0, 0), ByteArray.empty, errOf c) := by unfold areaR; rw [if_pos h, h2]; exact if_neg hc
theorem areaR_ok {ls : List ByteArray} {lp : List (Int × ByteArray)} {g : Int} {s n : Nat} (h : rightB ls lp = true) (h2 : seenO ls lp = (g, (s : Int), (n : Int), 0)) : areaR ls lp = ((g, (s : Int), (n : Int)), sideT (sideK (readD ls lp) (halfN ls) (firstN ls s) n), sideE (sideK (readD ls lp) (halfN ls) (firstN ls s) n)) := by unfold areaR sideO; rw [if_pos h, h2]; rfl
theorem box2_far {W : World} {b k : Nat} {vs vp x y z : Value} (h : W.cell? ⟨k, 0, none⟩ = some vs ∧ W.cell? ⟨k, 1, none⟩ = some vp) (hb : b ≠ k) : (((W.setCell ⟨b, 0, none⟩ x).setCell ⟨b, 1, none⟩ y).setCell ⟨b, 2, none⟩ z).cell? ⟨k, 0, none⟩ = some vs ∧ (((W.setCell ⟨b, 0, none⟩ x).setCell ⟨b, 1, none⟩ y).setCell ⟨b, 2, none⟩ z).cell? ⟨k, 1, none⟩ = some vp := ⟨(cellH_far hb).trans h.1, (cellH_far hb).trans h.2⟩

theorem boxH_set {W : World} {b : Nat} {x y z g s n : Int} (h : BoxH W b x y z) : BoxH (((W.setCell ⟨b, 0, none⟩ (.int .i64 g)).setCell ⟨b, 1, none⟩ (.int .i64 s)).setCell ⟨b, 2, none⟩ (.int .i64 n)) b g s n := row_set (row_set (row_set h 0 (.int .i64 g)) 1 (.int .i64 s)) 2 (.int .i64 n)

set_option maxRecDepth 100000 in
set_option maxHeartbeats 8000000 in
theorem readArea_any (A : Nat → Addr) (vs vp : Value) (ls : List ByteArray) (lp : List (Int × ByteArray)) (w : World) (hs : Strs w vs ls) (hp : Pends w vp lp) (hf : Fits ls lp) (hS : SentsLaid w A sentL) (hL : GetNum.Laid w) :
    Calls Tryz.prog 26 #[.agg #[vs, vp]] w fun e w' => e = .returned (.tuple #[headV (areaR ls lp).1.1 (areaR ls lp).1.2.1 (areaR ls lp).1.2.2, .string (areaR ls lp).2.1, errV A (areaR ls lp).2.2]) ∧ Below w.heap.size w w' := by
  obtain ⟨W0, hW0⟩ : ∃ W0, W0 = (w.alloc (.cells #[vs, vp] 26)).alloc (.cells #[.int .i64 0, .int .i64 0, .int .i64 0] 49) := ⟨_, rfl⟩
  have HB0 : Hid (Below w.heap.size w W0) := by rw [hW0]; exact bA (bself _) _
  have HZ : Hid (W0.heap.size = w.heap.size + 2) := by rw [hW0]; simp [Hid]
  have HX : Hid (Box2 W0 w.heap.size vs vp) := by rw [hW0]; exact Sha.row_alloc (Sha.row_new w [vs, vp] 26) _
  have HH : Hid (BoxH W0 (w.heap.size + 1) 0 0 0) := by rw [hW0]; exact Sha.row_new_at (w.alloc _) [.int .i64 0, .int .i64 0, .int .i64 0] 49 _ (by simp)
  have HS : Hid (Strs W0 vs ls) := hs.below HB0.out
  have HP : Hid (Pends W0 vp lp) := hp.below HB0.out
  have HF : Hid (Fits ls lp) := hf
  have HSL : Hid (SentsLaid W0 A sentL) := hS.below HB0.out
  have HLL : Hid (GetNum.Laid W0) := GetNum.laid_below hL HB0.out
  have K1 : Hid (Calls Tryz.prog 35 #[.agg #[vs, vp]] W0 fun e w' => e = .returned (.bool (rightB ls lp)) ∧ Below W0.heap.size W0 w') := implRight_any vs vp ls lp W0 HS.out HP.out hf.n hf.m hf.t hf.y
  have hz0 := HZ.out
  have hgE : 0 < w.heap.size := World.block_lt_of_cell? w _ (hS.v 0 (by simp [sentL]))
  clear hs hp hf hS hL
  cases hr : rightB ls lp
  · rw [areaR_form hr]
    rw [hr] at K1
    clear hr
    go_enter Tryz.func26, Tryz.ntmps26
    go_wp2_with (go_at_call 35; rw [← hW0]; clear hW0; refine K1.out.mono ?_; rintro e w1 ⟨rfl, hb1⟩; have hz := hb1.size; have HB1 : Hid _ := hb1; clear hb1)
    obtain ⟨ev, HEV⟩ : ∃ ev, Hid (errV A (some 0) = ev) := ⟨_, rfl⟩
    have kQ := (HSL.out.below HB1.out).v 0 (by simp [sentL])
    change _ = some (errV A (some 0)) at kQ
    rw [HEV.out] at kQ
    obtain ⟨x0, x1, x2, xf⟩ := BoxH.cells (BoxH.below HH.out HB1.out (by omega))
    go_region_held3 (fun W => W.cell? ⟨0, 0, none⟩ = some ev)
      (first
        | (exact (cellH_far (by omega)).trans kQ)
        | exact kQ)
      (fail)
    go_wp2_with fail
    refine bodyPost_ret (v := .tuple #[headV 0 0 0, .string ByteArray.empty, ev]) (by simp [results, Tryz.results26, go_sem, x0, x1, x2]; rfl) rfl ⟨by rw [← HEV.out], ?_⟩
    exact bD (belowH_set (bT HB0.out HB1.out) (by omega) _ _ _)
  have hl1 := ((right_iff ls lp).1 hr).1
  have hl64 := ((right_iff ls lp).1 hr).2.1
  have h31 := halfN_le hl64
  have hsz := readD_size hr 0 (by omega)
  have K0 : Hid (∀ W, Below W0.heap.size W0 W → Calls Tryz.prog 57 #[.agg #[vs, vp], .int .i64 0] W fun e w' => ∃ us up, e = .returned (outV us up (readD ls lp 0) 0) ∧ Below W.heap.size W w') := fun W hb => implRead_at vs vp ls lp 0 _ W hr (by omega) rfl (HS.out.below hb) (HP.out.below hb)
  have KR : Hid (∀ W, Below W0.heap.size W0 W → Calls Tryz.prog 15 #[.agg #[vs, vp]] W fun e w' => e = .returned (.int .i64 ((64 * halfN ls : Nat) : Int)) ∧ Below W.heap.size W w') := fun W hb => by
    have h := implRoom_any vs vp ls lp W (HS.out.below hb) (HP.out.below hb) HF.out
    rw [roomN_yes hr] at h
    exact h
  have KH : Hid (∀ W, Below W0.heap.size W0 W → Calls Tryz.prog 56 #[.string (readD ls lp 0), .int .i64 ((64 * halfN ls : Nat) : Int)] W fun e w' => e = .returned (.tuple #[headV (seenO ls lp).1 (seenO ls lp).2.1 (seenO ls lp).2.2.1, errV A (errOf (seenO ls lp).2.2.2)]) ∧ Below W.heap.size W w') := fun W hb => readHead_any A ls lp _ _ W rfl rfl hsz (HSL.out.below hb) (GetNum.laid_below HLL.out hb)
  rw [hr] at K1
  have hfo := fldO
  rcases seen_cases ls lp with ⟨g, s, n, hsn, hg0, hs1, hn1, _⟩ | hsn
  · have hE := areaR_ok hr hsn
    have KT : Hid (∀ W, Below W0.heap.size W0 W → Calls Tryz.prog 58 #[.agg #[vs, vp], headV g s n] W fun e w' => e = .returned (.tuple #[.string (sideT (sideK (readD ls lp) (halfN ls) (firstN ls s) n)), errV A (sideE (sideK (readD ls lp) (halfN ls) (firstN ls s) n))]) ∧ Below W.heap.size W w') := fun W hb => sideText_any A vs vp ls lp g s n W (HS.out.below hb) (HP.out.below hb) hr hs1 hn1 (HSL.out.below hb)
    rw [hE]
    rw [hsn] at KH
    have KH2 : Hid (∀ W, Below W0.heap.size W0 W → Calls Tryz.prog 56 #[.string (readD ls lp 0), .int .i64 ((64 * halfN ls : Nat) : Int)] W fun e w' => e = .returned (.tuple #[headV g s n, .nilIface]) ∧ Below W.heap.size W w') := KH.out
    clear KH
    have KH := KH2
    clear KH2 hE hsn hr hsz
    generalize sideK (readD ls lp) (halfN ls) (firstN ls s) n = R at *
    generalize readD ls lp 0 = hd at *
    obtain ⟨rm, hrm⟩ : ∃ rm, ((64 * halfN ls : Nat) : Int) = rm := ⟨_, rfl⟩
    rw [hrm] at KR KH
    clear hrm
    go_enter Tryz.func26, Tryz.ntmps26
    go_wp2_with (go_at_call 35; rw [← hW0]; clear hW0; refine K1.out.mono ?_; rintro e w1 ⟨rfl, hb1⟩; have hz := hb1.size; have HB1 : Hid _ := hb1; clear hb1)
    have HX1 : Hid (Box2 w1 w.heap.size vs vp) := Box2.below HX.out HB1.out (by omega)
    have HH1 : Hid (BoxH w1 (w.heap.size + 1) 0 0 0) := BoxH.below HH.out HB1.out (by omega)
    have NB : Hid (Below w1.heap.size w1 w1) := Below.refl _ _
    have KC : Hid (∀ W, Below w1.heap.size w1 W → W.cell? ⟨w.heap.size, 0, none⟩ = some vs ∧ W.cell? ⟨w.heap.size, 1, none⟩ = some vp) := fun W hb => ⟨(Box2.cells (Box2.below HX1.out hb (by omega))).1, (Box2.cells (Box2.below HX1.out hb (by omega))).2.1⟩
    have kQ := KC.out _ NB.out
    go_cut [5, 6] (fun y e wc => ∃ gx, y = .pointer (some ⟨gx, 0, none⟩) ∧ e = .nilIface ∧ BoxH wc gx g s n ∧ Below w1.heap.size w1 wc ∧ w1.heap.size ≤ gx ∧ gx < wc.heap.size)
    case first =>
      go_region_held3 (fun W => W.cell? ⟨w.heap.size, 0, none⟩ = some vs ∧ W.cell? ⟨w.heap.size, 1, none⟩ = some vp)
        (first
          | exact kQ
          | (refine KC.out _ ?_; (repeat' (first | exact NB.out | apply bD | apply bA)); done)
          | exact box2_far kQ (by omega))
        (first
          | (go_at_call 57; refine (K0.out _ (by refine bT HB1.out ?_; repeat' (first | exact NB.out | apply bD | apply bA))).mono ?_; rintro e u ⟨us, up, rfl, hb⟩; have NB : Hid (Below w1.heap.size w1 u) := bT (by repeat' (first | exact NB.out | apply bD | apply bA)) hb; have hzu := NB.out.size; clear kQ; have kQ := KC.out _ NB.out; (first | (have zz : BoxH u w1.heap.size 0 0 0 := Only.row (Only.of_below (fun _ => False) hb) (Sha.row_new w1 [.int .i64 0, .int .i64 0, .int .i64 0] 49) (fun h => h); have hzz : w1.heap.size < u.heap.size := (by have := hb.size; simp at this; omega); obtain ⟨y0, y1, y2, yf⟩ := BoxH.cells zz) | skip); clear hb)
          | (go_at_call 15; refine (KR.out _ (by refine bT HB1.out ?_; repeat' (first | exact NB.out | apply bD | apply bA))).mono ?_; rintro e u2 ⟨rfl, hb⟩; have NB : Hid (Below w1.heap.size w1 u2) := bT (by repeat' (first | exact NB.out | apply bD | apply bA)) hb; have hzu2 := NB.out.size; clear kQ; have kQ := KC.out _ NB.out; (first | (have zz' : BoxH u2 _ 0 0 0 := Only.row (Only.of_below (fun _ => False) hb) zz (fun h => h); have hzz' := Nat.lt_of_lt_of_le hzz hb.size; clear zz hzz y0 y1 y2 yf; have zz := zz'; have hzz := hzz'; clear zz' hzz'; obtain ⟨y0, y1, y2, yf⟩ := BoxH.cells zz) | (have zz : BoxH u2 u.heap.size 0 0 0 := Only.row (Only.of_below (fun _ => False) hb) (Sha.row_new u [.int .i64 0, .int .i64 0, .int .i64 0] 49) (fun h => h); have hzz : u.heap.size < u2.heap.size := (by have := hb.size; simp at this; omega); obtain ⟨y0, y1, y2, yf⟩ := BoxH.cells zz) | skip); clear hb)
          | (go_at_call 56; refine (KH.out _ (by refine bT HB1.out ?_; repeat' (first | exact NB.out | apply bD | apply bA))).mono ?_; rintro e u3 ⟨rfl, hb⟩; have NB : Hid (Below w1.heap.size w1 u3) := bT (by repeat' (first | exact NB.out | apply bD | apply bA)) hb; have hzu3 := NB.out.size; clear kQ; have kQ := KC.out _ NB.out; (first | (have zz' : BoxH u3 _ 0 0 0 := Only.row (Only.of_below (fun _ => False) hb) zz (fun h => h); have hzz' := Nat.lt_of_lt_of_le hzz hb.size; clear zz hzz y0 y1 y2 yf; have zz := zz'; have hzz := hzz'; clear zz' hzz'; obtain ⟨y0, y1, y2, yf⟩ := BoxH.cells zz) | (have zz : BoxH u3 u2.heap.size 0 0 0 := Only.row (Only.of_below (fun _ => False) hb) (Sha.row_new u2 [.int .i64 0, .int .i64 0, .int .i64 0] 49) (fun h => h); have hzz : u2.heap.size < u3.heap.size := (by have := hb.size; simp at this; omega); obtain ⟨y0, y1, y2, yf⟩ := BoxH.cells zz) | skip); clear hb))
      all_goals go_wp2_with fail
      all_goals go_meet
      all_goals first
        | exact ⟨_, rfl, rfl, boxH_set zz, belowH_set NB.out (by omega) _ _ _, by omega, by simp; omega⟩
        | exact ⟨_, rfl, rfl, Sha.row_new u3 [.int .i64 g, .int .i64 (s : Int), .int .i64 (n : Int)] 49, bA NB.out _, by omega, by simp⟩
    case rest =>
      obtain ⟨gx, rfl, rfl, hbx, hbw, hz3, hz4⟩ := hcut
      have HXc : Hid (Box2 wc w.heap.size vs vp) := Box2.below HX1.out hbw (by omega)
      have HHc : Hid (BoxH wc (w.heap.size + 1) 0 0 0) := BoxH.below HH1.out hbw (by omega)
      have HBc : Hid (Below w1.heap.size w1 wc) := hbw
      have HGc : Hid (BoxH wc gx g s n) := hbx
      have hzc := hbw.size
      clear hbx hbw kQ NB KC
      obtain ⟨x0, x1, _⟩ := Box2.cells HXc.out
      obtain ⟨y0, y1, y2, yf⟩ := BoxH.cells HGc.out
      go_wp2_with fail
      refine (KT.out _ (bT HB1.out HBc.out)).mono ?_
      rintro e v ⟨rfl, hb⟩
      have hzv := hb.size
      have HBv : Hid (Below w1.heap.size w1 v) := bT HBc.out hb
      clear x0 x1 y0 y1 y2 yf
      obtain ⟨x0, x1, x2, xf⟩ := BoxH.cells (BoxH.below HHc.out hb (by omega))
      obtain ⟨y0, y1, y2, yf⟩ := BoxH.cells (BoxH.below HGc.out hb (by omega))
      clear hb
      go_wp2_with fail
      refine bodyPost_ret (v := .tuple #[headV g s n, .string (sideT R), errV A (sideE R)]) (by simp [results, Tryz.results26, go_sem, x0, x1, x2]) rfl ⟨rfl, ?_⟩
      exact belowH_set (bT (bT HB0.out HB1.out) HBv.out) (by omega) _ _ _
  · obtain ⟨cd, hsn, hcd⟩ : ∃ cd : Int, seenO ls lp = (0, 0, 0, cd) ∧ (cd = 3 ∨ cd = 4 ∨ cd = 5) := by
      rcases hsn with h | h | h
      · exact ⟨3, h, .inl rfl⟩
      · exact ⟨4, h, .inr (.inl rfl)⟩
      · exact ⟨5, h, .inr (.inr rfl)⟩
    have hE := areaR_code hr hsn (by omega)
    obtain ⟨ge, hge⟩ : ∃ ge, errOf cd = some ge := by rcases hcd with rfl | rfl | rfl <;> exact ⟨_, rfl⟩
    rw [hge] at hE
    rw [hE]
    rw [hsn] at KH
    dsimp only at KH
    rw [hge] at KH
    have KH2 : Hid (∀ W, Below W0.heap.size W0 W → Calls Tryz.prog 56 #[.string (readD ls lp 0), .int .i64 ((64 * halfN ls : Nat) : Int)] W fun e w' => e = .returned (.tuple #[headV 0 0 0, .iface 157 (.pointer (some (A ge)))]) ∧ Below W.heap.size W w') := KH.out
    clear KH
    have KH := KH2
    clear KH2 hE hsn hr hsz hge hcd
    generalize readD ls lp 0 = hd at *
    obtain ⟨rm, hrm⟩ : ∃ rm, ((64 * halfN ls : Nat) : Int) = rm := ⟨_, rfl⟩
    rw [hrm] at KR KH
    clear hrm
    go_enter Tryz.func26, Tryz.ntmps26
    go_wp2_with (go_at_call 35; rw [← hW0]; clear hW0; refine K1.out.mono ?_; rintro e w1 ⟨rfl, hb1⟩; have hz := hb1.size; have HB1 : Hid _ := hb1; clear hb1)
    have HX1 : Hid (Box2 w1 w.heap.size vs vp) := Box2.below HX.out HB1.out (by omega)
    have HH1 : Hid (BoxH w1 (w.heap.size + 1) 0 0 0) := BoxH.below HH.out HB1.out (by omega)
    have NB : Hid (Below w1.heap.size w1 w1) := Below.refl _ _
    have KC : Hid (∀ W, Below w1.heap.size w1 W → W.cell? ⟨w.heap.size, 0, none⟩ = some vs ∧ W.cell? ⟨w.heap.size, 1, none⟩ = some vp) := fun W hb => ⟨(Box2.cells (Box2.below HX1.out hb (by omega))).1, (Box2.cells (Box2.below HX1.out hb (by omega))).2.1⟩
    have kQ := KC.out _ NB.out
    go_cut [5, 6] (fun y e wc => ∃ gx, y = .pointer (some ⟨gx, 0, none⟩) ∧ e = .iface 157 (.pointer (some (A ge))) ∧ BoxH wc gx 0 0 0 ∧ Below w1.heap.size w1 wc ∧ w1.heap.size ≤ gx ∧ gx < wc.heap.size)
    case first =>
      go_region_held3 (fun W => W.cell? ⟨w.heap.size, 0, none⟩ = some vs ∧ W.cell? ⟨w.heap.size, 1, none⟩ = some vp)
        (first
          | exact kQ
          | (refine KC.out _ ?_; (repeat' (first | exact NB.out | apply bD | apply bA)); done)
          | exact box2_far kQ (by omega))
        (first
          | (go_at_call 57; refine (K0.out _ (by refine bT HB1.out ?_; repeat' (first | exact NB.out | apply bD | apply bA))).mono ?_; rintro e u ⟨us, up, rfl, hb⟩; have NB : Hid (Below w1.heap.size w1 u) := bT (by repeat' (first | exact NB.out | apply bD | apply bA)) hb; have hzu := NB.out.size; clear kQ; have kQ := KC.out _ NB.out; (first | (have zz : BoxH u w1.heap.size 0 0 0 := Only.row (Only.of_below (fun _ => False) hb) (Sha.row_new w1 [.int .i64 0, .int .i64 0, .int .i64 0] 49) (fun h => h); have hzz : w1.heap.size < u.heap.size := (by have := hb.size; simp at this; omega); obtain ⟨y0, y1, y2, yf⟩ := BoxH.cells zz) | skip); clear hb)
          | (go_at_call 15; refine (KR.out _ (by refine bT HB1.out ?_; repeat' (first | exact NB.out | apply bD | apply bA))).mono ?_; rintro e u2 ⟨rfl, hb⟩; have NB : Hid (Below w1.heap.size w1 u2) := bT (by repeat' (first | exact NB.out | apply bD | apply bA)) hb; have hzu2 := NB.out.size; clear kQ; have kQ := KC.out _ NB.out; (first | (have zz' : BoxH u2 _ 0 0 0 := Only.row (Only.of_below (fun _ => False) hb) zz (fun h => h); have hzz' := Nat.lt_of_lt_of_le hzz hb.size; clear zz hzz y0 y1 y2 yf; have zz := zz'; have hzz := hzz'; clear zz' hzz'; obtain ⟨y0, y1, y2, yf⟩ := BoxH.cells zz) | (have zz : BoxH u2 u.heap.size 0 0 0 := Only.row (Only.of_below (fun _ => False) hb) (Sha.row_new u [.int .i64 0, .int .i64 0, .int .i64 0] 49) (fun h => h); have hzz : u.heap.size < u2.heap.size := (by have := hb.size; simp at this; omega); obtain ⟨y0, y1, y2, yf⟩ := BoxH.cells zz) | skip); clear hb)
          | (go_at_call 56; refine (KH.out _ (by refine bT HB1.out ?_; repeat' (first | exact NB.out | apply bD | apply bA))).mono ?_; rintro e u3 ⟨rfl, hb⟩; have NB : Hid (Below w1.heap.size w1 u3) := bT (by repeat' (first | exact NB.out | apply bD | apply bA)) hb; have hzu3 := NB.out.size; clear kQ; have kQ := KC.out _ NB.out; (first | (have zz' : BoxH u3 _ 0 0 0 := Only.row (Only.of_below (fun _ => False) hb) zz (fun h => h); have hzz' := Nat.lt_of_lt_of_le hzz hb.size; clear zz hzz y0 y1 y2 yf; have zz := zz'; have hzz := hzz'; clear zz' hzz'; obtain ⟨y0, y1, y2, yf⟩ := BoxH.cells zz) | (have zz : BoxH u3 u2.heap.size 0 0 0 := Only.row (Only.of_below (fun _ => False) hb) (Sha.row_new u2 [.int .i64 0, .int .i64 0, .int .i64 0] 49) (fun h => h); have hzz : u2.heap.size < u3.heap.size := (by have := hb.size; simp at this; omega); obtain ⟨y0, y1, y2, yf⟩ := BoxH.cells zz) | skip); clear hb))
      all_goals go_wp2_with fail
      all_goals go_meet
      all_goals first
        | exact ⟨_, rfl, rfl, boxH_set zz, belowH_set NB.out (by omega) _ _ _, by omega, by simp; omega⟩
        | exact ⟨_, rfl, rfl, Sha.row_new u3 [.int .i64 0, .int .i64 0, .int .i64 0] 49, bA NB.out _, by omega, by simp⟩
    case rest =>
      obtain ⟨gx, rfl, rfl, hbx, hbw, hz3, hz4⟩ := hcut
      have HXc : Hid (Box2 wc w.heap.size vs vp) := Box2.below HX1.out hbw (by omega)
      have HHc : Hid (BoxH wc (w.heap.size + 1) 0 0 0) := BoxH.below HH1.out hbw (by omega)
      have HBc : Hid (Below w1.heap.size w1 wc) := hbw
      have hzc := hbw.size
      clear hbx hbw kQ NB KC
      obtain ⟨x0, x1, x2, xf⟩ := BoxH.cells HHc.out
      go_wp2_with fail
      refine bodyPost_ret (v := .tuple #[headV 0 0 0, .string ByteArray.empty, .iface 157 (.pointer (some (A ge)))]) (by simp [results, Tryz.results26, go_sem, x0, x1, x2]; rfl) rfl ⟨rfl, ?_⟩
      exact belowH_set (bT (bT HB0.out HB1.out) HBc.out) (by omega) _ _ _
end Go.Proofs.YtkigmpeanllimaaGreatDoor.Disk
