/- The promise on torn puts: the walk. -/
import Derived.Test.YtkigmpeanllimaaGreatDoorDrawAreas
import Derived.Test.YtkigmpeanllimaaGreatDoorTextsG
import Derived.Test.YtkigmpeanllimaaGreatDoorTextsE
import Derived.Test.YtkigmpeanllimaaGreatDoorAreaGlue
import Derived.Test.YtkigmpeanllimaaGreatDoorImplARead
import Derived.Test.YtkigmpeanllimaaGreatDoorImplPut2
import Derived.Test.YtkigmpeanllimaaGreatDoorTextsF
import Derived.Test.YtkigmpeanllimaaGreatDoorSpecARead
import Derived.Test.YtkigmpeanllimaaGreatDoorSpecPut
import Derived.Test.YtkigmpeanllimaaGreatDoorTextsA
namespace Go.Proofs.YtkigmpeanllimaaGreatDoor.Disk
open Go.RowKit Go.Proofs.YtkigmpeanllimaaGreatDoor.Mem Go.Proofs.YtkigmpeanllimaaGreatDoor.Harn Go.Proofs.YtkigmpeanllimaaGreatDoor.DiskP Go.Proofs.YtkigmpeanllimaaGreatDoor.Draw

theorem fldO3 (a b : Value) (t : ByteArray) (g c : Int) (w : World) : (Instr.field 31 (outA a b t g c) 3).run Tryz.prog w = .ok (.int .i64 c) w := by kernel_rfl
theorem fldO0 (a b : Value) (t : ByteArray) (g c : Int) (w : World) : (Instr.field 31 (outA a b t g c) 0).run Tryz.prog w = .ok (.agg #[a, b]) w := by kernel_rfl
theorem torn_cells {V W : World} {g1 g3 g4 g5 : Nat} {dA qA xA yA dB qB xB yB : Option Addr} {da qa xa ya db qb xb yb : Nat} {dl ql xl yl : List ByteArray} {dp qp xp yp : List (Int × ByteArray)} {qt xt yt : ByteArray} {qg xg yg qc xc yc : Int}
    (d : BoxD V g1 dA da dB db dl dp) (q : BoxE V g3 qA qa qB qb ql qp qt qg qc) (x : BoxE V g4 xA xa xB xb xl xp xt xg xc) (y : BoxE V g5 yA ya yB yb yl yp yt yg yc) (hb : Below V.heap.size V W) :
    W.cell? ⟨g1, 0, none⟩ = some (.slice dA dl.length da) ∧ W.cell? ⟨g1, 1, none⟩ = some (.slice dB dp.length db) ∧ W.cell? ⟨g3, 0, none⟩ = some (.slice qA ql.length qa) ∧ W.cell? ⟨g3, 1, none⟩ = some (.slice qB qp.length qb) ∧ W.cell? ⟨g3, 2, none⟩ = some (.string qt) ∧ W.cell? ⟨g3, 3, none⟩ = some (.int .i64 qg) ∧ W.cell? ⟨g3, 4, none⟩ = some (.int .i64 qc) ∧ W.cell? ⟨g4, 0, none⟩ = some (.slice xA xl.length xa) ∧ W.cell? ⟨g4, 1, none⟩ = some (.slice xB xp.length xb) ∧ W.cell? ⟨g4, 2, none⟩ = some (.string xt) ∧ W.cell? ⟨g4, 3, none⟩ = some (.int .i64 xg) ∧ W.cell? ⟨g4, 4, none⟩ = some (.int .i64 xc) ∧ W.cell? ⟨g5, 0, none⟩ = some (.slice yA yl.length ya) ∧ W.cell? ⟨g5, 1, none⟩ = some (.slice yB yp.length yb) ∧ W.cell? ⟨g5, 2, none⟩ = some (.string yt) ∧ W.cell? ⟨g5, 3, none⟩ = some (.int .i64 yg) ∧ W.cell? ⟨g5, 4, none⟩ = some (.int .i64 yc) := by
  obtain ⟨a1, a2, _⟩ := (d.below hb).b.cells
  obtain ⟨d1, d2, d3, d4, d5⟩ := (q.below hb).b.cells
  obtain ⟨e1, e2, e3, e4, e5⟩ := (x.below hb).b.cells
  obtain ⟨f1, f2, f3, f4, f5⟩ := (y.below hb).b.cells
  exact ⟨a1, a2, d1, d2, d3, d4, d5, e1, e2, e3, e4, e5, f1, f2, f3, f4, f5⟩
set_option maxRecDepth 100000 in
set_option maxHeartbeats 8000000 in
theorem torn_law (a0 : Option Addr) (len0 cap0 : Nat) (z0 : List Int) (a1 : Option Addr) (len1 cap1 : Nat) (z1 : List Int) (A : Nat → Addr) (w : World) (hSL : Sent.SentsLaid w A Sent.sentL) (hLA : GetNum.Laid w) (h0 : IsRow w a0 len0 cap0 z0) (h1 : IsRow w a1 len1 cap1 z1) :
    Calls Tryz.prog 4 #[.slice a0 len0 cap0, .slice a1 len1 cap1] w fun e w' => e = .returned (.bool true) ∧ Below w.heap.size w w' := by
  have hl0 := row_len h0
  have hl1 := row_len h1
  unfold maxLen at hl0 hl1
  have H0 : Hid (∀ W, Below w.heap.size w W → IsRow W a0 len0 cap0 z0) := fun W hb => Draw.row_below h0 hb
  have H1 : Hid (∀ W, Below w.heap.size w W → IsRow W a1 len1 cap1 z1) := fun W hb => Draw.row_below h1 hb
  have HSL : Hid (Sent.SentsLaid w A Sent.sentL) := hSL
  have HLA : Hid (GetNum.Laid w) := hLA
  clear h0 h1 hSL hLA
  by_cases b0 : 1048576 < len0
  · go_enter Tryz.func4, Tryz.ntmps4
    go_wp2
    go_ret
    exact ⟨rfl, Below.refl _ _⟩
  by_cases b1 : 1048576 < len1
  · have hd0 : decide (1048576 < (len0 : Int)) = false := decide_eq_false (by omega)
    go_enter Tryz.func4, Tryz.ntmps4
    go_wp2
    go_ret
    exact ⟨rfl, Below.refl _ _⟩
  have hd0 : decide (1048576 < (len0 : Int)) = false := decide_eq_false (by omega)
  have hd1 : decide (1048576 < (len1 : Int)) = false := decide_eq_false (by omega)
  go_enter Tryz.func4, Tryz.ntmps4
  go_wp2_with fail
  refine (drawAPut_any _ a0 len0 cap0 z0 (H0.out _ (Below.refl _ _))).mono ?_
  rintro e w1 ⟨us, up, dl, dp, t, st, rfl, hg, ht, hst0, hst7⟩
  obtain ⟨dA, da, dB, db, rfl, rfl⟩ := hg.1.shape
  have FD : Hid (Fits dl dp) := hg.2.1.fits
  have D1 : Hid (BoxD _ w1.heap.size dA da dB db dl dp) := boxD_new hg.1.strs hg.1.pends
  have B1 : Hid (Below w.heap.size w (w1.alloc (.cells #[.slice dA dl.length da, .slice dB dp.length db] 26))) := bA hg.2.2 _
  obtain ⟨W1, hW1⟩ : ∃ W1, W1 = w1.alloc (.cells #[.slice dA dl.length da, .slice dB dp.length db] 26) := ⟨_, rfl⟩
  rw [← hW1] at D1 B1
  clear hg
  go_wp2_with fail
  rw [← hW1]
  clear hW1
  refine (drawCrash_any _ a1 len1 cap1 z1 (H1.out _ B1.out)).mono ?_
  rintro e w2 ⟨us, up, cl, cp, vk, kp, rfl, hg, hk, hkn⟩
  obtain ⟨cA, ca, cB, cb, rfl, rfl⟩ := hg.1.shape
  have FC : Hid (Fits cl cp) := hg.2.1.fits
  have C2 : Hid (BoxD _ w2.heap.size cA ca cB cb cl cp) := boxD_new hg.1.strs hg.1.pends
  have N2 : Hid (Below W1.heap.size W1 (w2.alloc (.cells #[.slice cA cl.length ca, .slice cB cp.length cb] 26))) := bA hg.2.2 _
  obtain ⟨W2, hW2⟩ : ∃ W2, W2 = w2.alloc (.cells #[.slice cA cl.length ca, .slice cB cp.length cb] 26) := ⟨_, rfl⟩
  rw [← hW2] at C2 N2
  clear hg
  have B2 : Hid (Below w.heap.size w W2) := bT B1.out N2.out
  have D2 : Hid (BoxD W2 w1.heap.size dA da dB db dl dp) := D1.out.below N2.out
  clear D1
  have HK : Hid (∀ W, Below W2.heap.size W2 W → Ints W vk kp) := fun W hb => Ints.below (by rw [hW2]; exact hk.below (bself _)) hb
  clear hk
  obtain ⟨rd0, rd1, _⟩ := Box2.cells D2.out.b
  rw [hW2] at rd0 rd1
  go_wp2_with fail
  rw [← hW2]
  clear rd0 rd1 hW2
  obtain ⟨O, hO⟩ : ∃ O, O = readAO dl dp := ⟨_, rfl⟩
  have FQ : Hid (Fits O.ls O.lp) := by rw [hO]; exact readAO_fits FD.out
  obtain ⟨ql, qp, qt, qg, qc⟩ := O
  dsimp only at FQ
  have HOQ : Hid (readAO dl dp = ⟨ql, qp, qt, qg, qc⟩) := hO.symm
  have K1 : Hid (Calls Tryz.prog 12 #[.agg #[.slice dA dl.length da, .slice dB dp.length db]] W2 fun e w' => ToldA W2 ⟨ql, qp, qt, qg, qc⟩ e w') := by rw [hO]; exact specARead_any _ _ dl dp W2 D2.out.s D2.out.p FD.out
  clear hO
  refine K1.out.mono ?_
  clear K1
  rintro e w3 ⟨us, up, rfl, ho, hb⟩
  dsimp only at ho
  obtain ⟨qA, qa, qB, qb, rfl, rfl⟩ := ho.shape
  have Q3 : Hid (BoxE _ w3.heap.size qA qa qB qb ql qp qt qg qc) := boxE_new qt qg qc ho.strs ho.pends
  have N3 : Hid (Below W2.heap.size W2 (w3.alloc (.cells #[.slice qA ql.length qa, .slice qB qp.length qb, .string qt, .int .i64 qg, .int .i64 qc] 31))) := bA hb _
  obtain ⟨W3, hW3⟩ : ∃ W3, W3 = w3.alloc (.cells #[.slice qA ql.length qa, .slice qB qp.length qb, .string qt, .int .i64 qg, .int .i64 qc] 31) := ⟨_, rfl⟩
  rw [← hW3] at Q3 N3
  clear ho hb
  have B3 : Hid (Below w.heap.size w W3) := bT B2.out N3.out
  have D3 : Hid (BoxD W3 w1.heap.size dA da dB db dl dp) := D2.out.below N3.out
  clear D2
  have C3 : Hid (BoxD W3 w2.heap.size cA ca cB cb cl cp) := C2.out.below N3.out
  clear C2
  obtain ⟨rd0, rd1, _⟩ := Box2.cells D3.out.b
  rw [hW3] at rd0 rd1
  go_wp2_with fail
  rw [← hW3]
  clear rd0 rd1 hW3
  obtain ⟨O, hO⟩ : ∃ O, O = putAO dl dp t st := ⟨_, rfl⟩
  have FX : Hid (Fits O.ls O.lp) := by rw [hO]; exact putAO_fits t st FD.out
  obtain ⟨xl, xp, xt, xg, xc⟩ := O
  dsimp only at FX
  have HOX : Hid (putAO dl dp t st = ⟨xl, xp, xt, xg, xc⟩) := hO.symm
  have K1 : Hid (Calls Tryz.prog 9 #[.agg #[.slice dA dl.length da, .slice dB dp.length db], .string t, .int .i64 st] W3 fun e w' => ToldA W3 ⟨xl, xp, xt, xg, xc⟩ e w') := by rw [hO]; exact implPut_any A _ _ dl dp t st W3 D3.out.s D3.out.p FD.out (HSL.out.below B3.out) (GetNum.laid_below HLA.out B3.out)
  clear hO
  refine K1.out.mono ?_
  clear K1
  rintro e w4 ⟨us, up, rfl, ho, hb⟩
  dsimp only at ho
  obtain ⟨xA, xa, xB, xb, rfl, rfl⟩ := ho.shape
  have X4 : Hid (BoxE _ w4.heap.size xA xa xB xb xl xp xt xg xc) := boxE_new xt xg xc ho.strs ho.pends
  have N4 : Hid (Below W3.heap.size W3 (w4.alloc (.cells #[.slice xA xl.length xa, .slice xB xp.length xb, .string xt, .int .i64 xg, .int .i64 xc] 31))) := bA hb _
  obtain ⟨W4, hW4⟩ : ∃ W4, W4 = w4.alloc (.cells #[.slice xA xl.length xa, .slice xB xp.length xb, .string xt, .int .i64 xg, .int .i64 xc] 31) := ⟨_, rfl⟩
  rw [← hW4] at X4 N4
  clear ho hb
  have B4 : Hid (Below w.heap.size w W4) := bT B3.out N4.out
  have D4 : Hid (BoxD W4 w1.heap.size dA da dB db dl dp) := D3.out.below N4.out
  clear D3
  have C4 : Hid (BoxD W4 w2.heap.size cA ca cB cb cl cp) := C3.out.below N4.out
  clear C3
  have Q4 : Hid (BoxE W4 w3.heap.size qA qa qB qb ql qp qt qg qc) := Q3.out.below N4.out
  clear Q3
  obtain ⟨rd0, rd1, _⟩ := Box2.cells D4.out.b
  rw [hW4] at rd0 rd1
  go_wp2_with fail
  rw [← hW4]
  clear rd0 rd1 hW4
  obtain ⟨O, hO⟩ : ∃ O, O = putAO dl dp t 1000 := ⟨_, rfl⟩
  have FY : Hid (Fits O.ls O.lp) := by rw [hO]; exact putAO_fits t 1000 FD.out
  obtain ⟨yl, yp, yt, yg, yc⟩ := O
  dsimp only at FY
  have HOY : Hid (putAO dl dp t 1000 = ⟨yl, yp, yt, yg, yc⟩) := hO.symm
  have K1 : Hid (Calls Tryz.prog 9 #[.agg #[.slice dA dl.length da, .slice dB dp.length db], .string t, .int .i64 1000] W4 fun e w' => ToldA W4 ⟨yl, yp, yt, yg, yc⟩ e w') := by rw [hO]; exact implPut_any A _ _ dl dp t 1000 W4 D4.out.s D4.out.p FD.out (HSL.out.below B4.out) (GetNum.laid_below HLA.out B4.out)
  clear hO
  refine K1.out.mono ?_
  clear K1
  rintro e w5 ⟨us, up, rfl, ho, hb⟩
  dsimp only at ho
  obtain ⟨yA, ya, yB, yb, rfl, rfl⟩ := ho.shape
  have Y5 : Hid (BoxE _ w5.heap.size yA ya yB yb yl yp yt yg yc) := boxE_new yt yg yc ho.strs ho.pends
  have N5 : Hid (Below W4.heap.size W4 (w5.alloc (.cells #[.slice yA yl.length ya, .slice yB yp.length yb, .string yt, .int .i64 yg, .int .i64 yc] 31))) := bA hb _
  obtain ⟨W5, hW5⟩ : ∃ W5, W5 = w5.alloc (.cells #[.slice yA yl.length ya, .slice yB yp.length yb, .string yt, .int .i64 yg, .int .i64 yc] 31) := ⟨_, rfl⟩
  rw [← hW5] at Y5 N5
  clear ho hb
  have B5 : Hid (Below w.heap.size w W5) := bT B4.out N5.out
  have D5 : Hid (BoxD W5 w1.heap.size dA da dB db dl dp) := D4.out.below N5.out
  clear D4
  have C5 : Hid (BoxD W5 w2.heap.size cA ca cB cb cl cp) := C4.out.below N5.out
  clear C4
  have Q5 : Hid (BoxE W5 w3.heap.size qA qa qB qb ql qp qt qg qc) := Q4.out.below N5.out
  clear Q4
  have X5 : Hid (BoxE W5 w4.heap.size xA xa xB xb xl xp xt xg xc) := X4.out.below N5.out
  clear X4
  have HKV : Hid (∀ W, Below W5.heap.size W5 W → Ints W vk kp) := fun W hb => HK.out _ (bT (bT (bT N3.out N4.out) N5.out) hb)
  clear HK
  clear N2 N3 N4 N5 B1 B2 B3 B4
  generalize w1.heap.size = g1 at *
  generalize w2.heap.size = g2 at *
  generalize w3.heap.size = g3 at *
  generalize w4.heap.size = g4 at *
  go_wp2_with fail
  rw [← hW5]
  generalize w5.heap.size = g5 at *
  clear hW5
  generalize W5 = V at *
  have KC : Hid (∀ W, Below V.heap.size V W → W.cell? ⟨g1, 0, none⟩ = some (.slice dA dl.length da) ∧ W.cell? ⟨g1, 1, none⟩ = some (.slice dB dp.length db) ∧ W.cell? ⟨g3, 0, none⟩ = some (.slice qA ql.length qa) ∧ W.cell? ⟨g3, 1, none⟩ = some (.slice qB qp.length qb) ∧ W.cell? ⟨g3, 2, none⟩ = some (.string qt) ∧ W.cell? ⟨g3, 3, none⟩ = some (.int .i64 qg) ∧ W.cell? ⟨g3, 4, none⟩ = some (.int .i64 qc) ∧ W.cell? ⟨g4, 0, none⟩ = some (.slice xA xl.length xa) ∧ W.cell? ⟨g4, 1, none⟩ = some (.slice xB xp.length xb) ∧ W.cell? ⟨g4, 2, none⟩ = some (.string xt) ∧ W.cell? ⟨g4, 3, none⟩ = some (.int .i64 xg) ∧ W.cell? ⟨g4, 4, none⟩ = some (.int .i64 xc) ∧ W.cell? ⟨g5, 0, none⟩ = some (.slice yA yl.length ya) ∧ W.cell? ⟨g5, 1, none⟩ = some (.slice yB yp.length yb) ∧ W.cell? ⟨g5, 2, none⟩ = some (.string yt) ∧ W.cell? ⟨g5, 3, none⟩ = some (.int .i64 yg) ∧ W.cell? ⟨g5, 4, none⟩ = some (.int .i64 yc)) := fun W hb => torn_cells D5.out Q5.out X5.out Y5.out hb
  have KS : Hid (∀ W, Below V.heap.size V W → Calls Tryz.prog 13 #[.agg #[.slice dA dl.length da, .slice dB dp.length db], .string t, .int .i64 st] W fun e w' => ToldA W ⟨xl, xp, xt, xg, xc⟩ e w') := fun W hb => by rw [← HOX.out]; exact specPut_any _ _ dl dp t st W (D5.out.s.below hb) (D5.out.p.below hb) FD.out (WalkArith.wf_i64 (by omega))
  have KY : Hid (∀ W, Below V.heap.size V W → Calls Tryz.prog 13 #[.agg #[.slice dA dl.length da, .slice dB dp.length db], .string t, .int .i64 1000] W fun e w' => ToldA W ⟨yl, yp, yt, yg, yc⟩ e w') := fun W hb => by rw [← HOY.out]; exact specPut_any _ _ dl dp t 1000 W (D5.out.s.below hb) (D5.out.p.below hb) FD.out (by decide)
  have NU : Hid (Below V.heap.size V V) := Below.refl _ _
  have kS := KC.out _ (Below.refl _ _)
  have hfa := fldA
  have hf3 := fldO3
  have hf0 := fldO0
  by_cases hxc : xc = 0
  rotate_left
  · have hxb : (xc != 0) = true := by simp [hxc]
    clear hxc HKV
    go_region_held3 (fun w' => w'.cell? ⟨g1, 0, none⟩ = some (.slice dA dl.length da) ∧ w'.cell? ⟨g1, 1, none⟩ = some (.slice dB dp.length db) ∧ w'.cell? ⟨g3, 0, none⟩ = some (.slice qA ql.length qa) ∧ w'.cell? ⟨g3, 1, none⟩ = some (.slice qB qp.length qb) ∧ w'.cell? ⟨g3, 2, none⟩ = some (.string qt) ∧ w'.cell? ⟨g3, 3, none⟩ = some (.int .i64 qg) ∧ w'.cell? ⟨g3, 4, none⟩ = some (.int .i64 qc) ∧ w'.cell? ⟨g4, 0, none⟩ = some (.slice xA xl.length xa) ∧ w'.cell? ⟨g4, 1, none⟩ = some (.slice xB xp.length xb) ∧ w'.cell? ⟨g4, 2, none⟩ = some (.string xt) ∧ w'.cell? ⟨g4, 3, none⟩ = some (.int .i64 xg) ∧ w'.cell? ⟨g4, 4, none⟩ = some (.int .i64 xc) ∧ w'.cell? ⟨g5, 0, none⟩ = some (.slice yA yl.length ya) ∧ w'.cell? ⟨g5, 1, none⟩ = some (.slice yB yp.length yb) ∧ w'.cell? ⟨g5, 2, none⟩ = some (.string yt) ∧ w'.cell? ⟨g5, 3, none⟩ = some (.int .i64 yg) ∧ w'.cell? ⟨g5, 4, none⟩ = some (.int .i64 yc))
      (first | exact kS)
      (first
        | (go_at_call 13; refine (KS.out _ (by repeat' (first | with_reducible exact NU.out | with_reducible apply bD | with_reducible apply bA))).mono ?_; rintro e u ⟨us, up, rfl, ho, hb⟩; dsimp only at ho; obtain ⟨mA, ma, mB, mb, rfl, rfl⟩ := ho.shape; have QM : Hid (Own u _ _ (.slice mA xl.length ma) (.slice mB xp.length mb) xl xp) := ho; clear ho; have NU : Hid (Below V.heap.size V u) := bT (by repeat' (first | with_reducible exact NU.out | with_reducible apply bD | with_reducible apply bA)) hb; clear kS; have kS := KC.out _ NU.out; clear hb)
        | (go_at_call 18; refine (lwDisk_any _ _ _ _ xl xp _ (by refine Strs.below X5.out.s ?_; repeat' (first | with_reducible exact NU.out | with_reducible apply bD | with_reducible apply bA)) (by refine Pends.below X5.out.p ?_; repeat' (first | with_reducible exact NU.out | with_reducible apply bD | with_reducible apply bA)) (by refine Strs.below (Own.strs QM.out) ?_; repeat' (first | with_reducible exact Below.refl _ _ | with_reducible apply bD | with_reducible apply bA)) (by refine Pends.below (Own.pends QM.out) ?_; repeat' (first | with_reducible exact Below.refl _ _ | with_reducible apply bD | with_reducible apply bA)) FX.out.n FX.out.m).mono ?_; rintro e u ⟨rfl, hb⟩; clear QM; have NU : Hid (Below V.heap.size V u) := bT (by repeat' (first | with_reducible exact NU.out | with_reducible apply bD | with_reducible apply bA)) hb; clear kS; have kS := KC.out _ NU.out; clear hb; simp only [CutCall.shut_cut] at *))
    unfold Hid
    refine wpAnyH_take (i := 17) (v := ?_) rfl (by kernel_rfl) (by kernel_rfl) (by kernel_rfl) (fun _ _ _ h => h) (Or.inl ⟨by rfl, ?_⟩) kS ?_
    rotate_left
    · (intro w9 hS9; (try dsimp only at hS9); go_simp; (try with_reducible rfl))
    simp only [List.getElem_toArray, List.getElem_cons_succ, List.getElem_cons_zero, Act.put, List.setIfInBounds_toArray, List.set_cons_zero, List.set_cons_succ]
    refine wpAnyH_take (i := 18) (v := ?_) rfl (by kernel_rfl) (by kernel_rfl) (by kernel_rfl) (fun _ _ _ h => h) (Or.inl ⟨by rfl, ?_⟩) kS ?_
    rotate_left
    · (intro w9 hS9; (try dsimp only at hS9); go_simp; (try with_reducible rfl))
    simp only [List.getElem_toArray, List.getElem_cons_succ, List.getElem_cons_zero, Act.put, List.setIfInBounds_toArray, List.set_cons_zero, List.set_cons_succ]
    refine wpAnyH_take (i := 19) (v := ?_) rfl (by kernel_rfl) (by kernel_rfl) (by kernel_rfl) (fun _ _ _ h => h) (Or.inl ⟨by rfl, ?_⟩) kS ?_
    rotate_left
    · (intro w9 hS9; (try dsimp only at hS9); go_simp; (try with_reducible rfl))
    simp only [List.getElem_toArray, List.getElem_cons_succ, List.getElem_cons_zero, Act.put, List.setIfInBounds_toArray, List.set_cons_zero, List.set_cons_succ]
    refine wpAnyH_take (i := 20) (v := ?_) rfl (by kernel_rfl) (by kernel_rfl) (by kernel_rfl) (fun _ _ _ h => h) (Or.inl ⟨by rfl, ?_⟩) kS ?_
    rotate_left
    · (intro w9 hS9; (try dsimp only at hS9); go_simp; (try with_reducible rfl))
    simp only [List.getElem_toArray, List.getElem_cons_succ, List.getElem_cons_zero, Act.put, List.setIfInBounds_toArray, List.set_cons_zero, List.set_cons_succ]
    refine wpAnyH_take (i := 21) (v := ?_) rfl (by kernel_rfl) (by kernel_rfl) (by kernel_rfl) (fun _ _ _ h => h) (Or.inl ⟨by rfl, ?_⟩) kS ?_
    rotate_left
    · (intro w9 hS9; (try dsimp only at hS9); go_simp; (try with_reducible rfl))
    simp only [List.getElem_toArray, List.getElem_cons_succ, List.getElem_cons_zero, Act.put, List.setIfInBounds_toArray, List.set_cons_zero, List.set_cons_succ]
    refine wpAnyH_take (i := 22) (v := ?_) rfl (by kernel_rfl) (by kernel_rfl) (by kernel_rfl) (fun _ _ _ h => h) (Or.inl ⟨by rfl, ?_⟩) kS ?_
    rotate_left
    · (intro w9 hS9; (try dsimp only at hS9); go_simp; (try with_reducible rfl))
    simp only [List.getElem_toArray, List.getElem_cons_succ, List.getElem_cons_zero, Act.put, List.setIfInBounds_toArray, List.set_cons_zero, List.set_cons_succ]
    refine wpAnyH_take (i := 23) (v := ?_) rfl (by kernel_rfl) (by kernel_rfl) (by kernel_rfl) (fun _ _ _ h => h) (Or.inl ⟨by rfl, ?_⟩) kS ?_
    rotate_left
    · (intro w9 hS9; (try dsimp only at hS9); go_simp; (try with_reducible rfl))
    simp only [List.getElem_toArray, List.getElem_cons_succ, List.getElem_cons_zero, Act.put, List.setIfInBounds_toArray, List.set_cons_zero, List.set_cons_succ]
    refine wpAnyH_take (i := 24) (v := ?_) rfl (by kernel_rfl) (by kernel_rfl) (by kernel_rfl) (fun _ _ _ h => h) (Or.inl ⟨by rfl, ?_⟩) kS ?_
    rotate_left
    · (intro w9 hS9; (try dsimp only at hS9); go_simp; (try with_reducible rfl))
    simp only [List.getElem_toArray, List.getElem_cons_succ, List.getElem_cons_zero, Act.put, List.setIfInBounds_toArray, List.set_cons_zero, List.set_cons_succ]
    first
      | (refine wpAnyH_take (i := 25) (v := _) rfl (by kernel_rfl) (by kernel_rfl) (by kernel_rfl) (fun _ _ _ h => h) (Or.inr ⟨by rfl, rfl⟩) kS ?_; simp only [List.getElem_toArray, List.getElem_cons_succ, List.getElem_cons_zero, Act.put, List.setIfInBounds_toArray, List.set_cons_zero, List.set_cons_succ])
      | (refine wpAnyH_ready (rs := [25]) (by kernel_rfl) (by simp) ?_; refine AllReadyH.cons rfl (fun K hK => ?_) AllReadyH.nil; rw [if_neg (by decide)]; refine hK.out _ _ kS (fun _ => ?_); clear hK K; simp only [List.getElem_toArray, List.getElem_cons_succ, List.getElem_cons_zero, Act.put, List.setIfInBounds_toArray, List.set_cons_zero, List.set_cons_succ])
    first
      | (refine wpAnyH_take (i := 26) (v := _) rfl (by kernel_rfl) (by kernel_rfl) (by kernel_rfl) (fun _ _ _ h => h) (Or.inr ⟨by rfl, rfl⟩) kS ?_; simp only [List.getElem_toArray, List.getElem_cons_succ, List.getElem_cons_zero, Act.put, List.setIfInBounds_toArray, List.set_cons_zero, List.set_cons_succ])
      | (refine wpAnyH_ready (rs := [26]) (by kernel_rfl) (by simp) ?_; refine AllReadyH.cons rfl (fun K hK => ?_) AllReadyH.nil; rw [if_neg (by decide)]; refine hK.out _ _ kS (fun _ => ?_); clear hK K; simp only [List.getElem_toArray, List.getElem_cons_succ, List.getElem_cons_zero, Act.put, List.setIfInBounds_toArray, List.set_cons_zero, List.set_cons_succ])
    first
      | (refine wpAnyH_take (i := 27) (v := _) rfl (by kernel_rfl) (by kernel_rfl) (by kernel_rfl) (fun _ _ _ h => h) (Or.inr ⟨by rfl, rfl⟩) kS ?_; simp only [List.getElem_toArray, List.getElem_cons_succ, List.getElem_cons_zero, Act.put, List.setIfInBounds_toArray, List.set_cons_zero, List.set_cons_succ])
      | (refine wpAnyH_ready (rs := [27]) (by kernel_rfl) (by simp) ?_; refine AllReadyH.cons rfl (fun K hK => ?_) AllReadyH.nil; rw [if_neg (by decide)]; refine hK.out _ _ kS (fun _ => ?_); clear hK K; simp only [List.getElem_toArray, List.getElem_cons_succ, List.getElem_cons_zero, Act.put, List.setIfInBounds_toArray, List.set_cons_zero, List.set_cons_succ])
    refine wpAnyH_take (i := 28) (v := ?_) rfl (by kernel_rfl) (by kernel_rfl) (by kernel_rfl) (fun _ _ _ h => h) (Or.inl ⟨by rfl, ?_⟩) kS ?_
    rotate_left
    · (intro w9 hS9; (try dsimp only at hS9); go_simp; (try with_reducible rfl))
    simp only [List.getElem_toArray, List.getElem_cons_succ, List.getElem_cons_zero, Act.put, List.setIfInBounds_toArray, List.set_cons_zero, List.set_cons_succ]
    refine wpAnyH_take (i := 29) (v := ?_) rfl (by kernel_rfl) (by kernel_rfl) (by kernel_rfl) (fun _ _ _ h => h) (Or.inl ⟨by rfl, ?_⟩) kS ?_
    rotate_left
    · (intro w9 hS9; (try dsimp only at hS9); go_simp; (try with_reducible rfl))
    simp only [List.getElem_toArray, List.getElem_cons_succ, List.getElem_cons_zero, Act.put, List.setIfInBounds_toArray, List.set_cons_zero, List.set_cons_succ]
    first
      | (refine wpAnyH_take (i := 30) (v := _) rfl (by kernel_rfl) (by kernel_rfl) (by kernel_rfl) (fun _ _ _ h => h) (Or.inr ⟨by rfl, rfl⟩) kS ?_; simp only [List.getElem_toArray, List.getElem_cons_succ, List.getElem_cons_zero, Act.put, List.setIfInBounds_toArray, List.set_cons_zero, List.set_cons_succ])
      | (refine wpAnyH_ready (rs := [30]) (by kernel_rfl) (by simp) ?_; refine AllReadyH.cons rfl (fun K hK => ?_) AllReadyH.nil; rw [if_neg (by decide)]; refine hK.out _ _ kS (fun _ => ?_); clear hK K; simp only [List.getElem_toArray, List.getElem_cons_succ, List.getElem_cons_zero, Act.put, List.setIfInBounds_toArray, List.set_cons_zero, List.set_cons_succ])
    first
      | (refine wpAnyH_take (i := 31) (v := _) rfl (by kernel_rfl) (by kernel_rfl) (by kernel_rfl) (fun _ _ _ h => h) (Or.inr ⟨by rfl, rfl⟩) kS ?_; simp only [List.getElem_toArray, List.getElem_cons_succ, List.getElem_cons_zero, Act.put, List.setIfInBounds_toArray, List.set_cons_zero, List.set_cons_succ])
      | (refine wpAnyH_ready (rs := [31]) (by kernel_rfl) (by simp) ?_; refine AllReadyH.cons rfl (fun K hK => ?_) AllReadyH.nil; rw [if_neg (by decide)]; refine hK.out _ _ kS (fun _ => ?_); clear hK K; simp only [List.getElem_toArray, List.getElem_cons_succ, List.getElem_cons_zero, Act.put, List.setIfInBounds_toArray, List.set_cons_zero, List.set_cons_succ])
    first
      | (refine wpAnyH_take (i := 32) (v := _) rfl (by kernel_rfl) (by kernel_rfl) (by kernel_rfl) (fun _ _ _ h => h) (Or.inr ⟨by rfl, rfl⟩) kS ?_; simp only [List.getElem_toArray, List.getElem_cons_succ, List.getElem_cons_zero, Act.put, List.setIfInBounds_toArray, List.set_cons_zero, List.set_cons_succ])
      | (refine wpAnyH_ready (rs := [32]) (by kernel_rfl) (by simp) ?_; refine AllReadyH.cons rfl (fun K hK => ?_) AllReadyH.nil; rw [if_neg (by decide)]; refine hK.out _ _ kS (fun _ => ?_); clear hK K; simp only [List.getElem_toArray, List.getElem_cons_succ, List.getElem_cons_zero, Act.put, List.setIfInBounds_toArray, List.set_cons_zero, List.set_cons_succ])
    first
      | (refine wpAnyH_take (i := 33) (v := _) rfl (by kernel_rfl) (by kernel_rfl) (by kernel_rfl) (fun _ _ _ h => h) (Or.inr ⟨by rfl, rfl⟩) kS ?_; simp only [List.getElem_toArray, List.getElem_cons_succ, List.getElem_cons_zero, Act.put, List.setIfInBounds_toArray, List.set_cons_zero, List.set_cons_succ])
      | (refine wpAnyH_ready (rs := [33]) (by kernel_rfl) (by simp) ?_; refine AllReadyH.cons rfl (fun K hK => ?_) AllReadyH.nil; rw [if_neg (by decide)]; refine hK.out _ _ kS (fun _ => ?_); clear hK K; simp only [List.getElem_toArray, List.getElem_cons_succ, List.getElem_cons_zero, Act.put, List.setIfInBounds_toArray, List.set_cons_zero, List.set_cons_succ])
    refine wpAnyH_take (i := 34) (v := ?_) rfl (by kernel_rfl) (by kernel_rfl) (by kernel_rfl) (fun _ _ _ h => h) (Or.inl ⟨by rfl, ?_⟩) kS ?_
    rotate_left
    · (intro w9 hS9; (try dsimp only at hS9); go_simp; (try with_reducible rfl))
    simp only [List.getElem_toArray, List.getElem_cons_succ, List.getElem_cons_zero, Act.put, List.setIfInBounds_toArray, List.set_cons_zero, List.set_cons_succ]
    refine wpAnyH_done (by kernel_rfl) ?_ _
    refine NoPanic.normal ?_
    go_wp2_with fail
    go_region_held3 (fun w' => w'.cell? ⟨g1, 0, none⟩ = some (.slice dA dl.length da) ∧ w'.cell? ⟨g1, 1, none⟩ = some (.slice dB dp.length db) ∧ w'.cell? ⟨g3, 0, none⟩ = some (.slice qA ql.length qa) ∧ w'.cell? ⟨g3, 1, none⟩ = some (.slice qB qp.length qb) ∧ w'.cell? ⟨g3, 2, none⟩ = some (.string qt) ∧ w'.cell? ⟨g3, 3, none⟩ = some (.int .i64 qg) ∧ w'.cell? ⟨g3, 4, none⟩ = some (.int .i64 qc) ∧ w'.cell? ⟨g4, 0, none⟩ = some (.slice xA xl.length xa) ∧ w'.cell? ⟨g4, 1, none⟩ = some (.slice xB xp.length xb) ∧ w'.cell? ⟨g4, 2, none⟩ = some (.string xt) ∧ w'.cell? ⟨g4, 3, none⟩ = some (.int .i64 xg) ∧ w'.cell? ⟨g4, 4, none⟩ = some (.int .i64 xc) ∧ w'.cell? ⟨g5, 0, none⟩ = some (.slice yA yl.length ya) ∧ w'.cell? ⟨g5, 1, none⟩ = some (.slice yB yp.length yb) ∧ w'.cell? ⟨g5, 2, none⟩ = some (.string yt) ∧ w'.cell? ⟨g5, 3, none⟩ = some (.int .i64 yg) ∧ w'.cell? ⟨g5, 4, none⟩ = some (.int .i64 yc))
      (first | exact kS)
      (first
        | (go_at_call_of 13 (Value.int .i64 1000); refine (KY.out _ (by repeat' (first | with_reducible exact NU.out | with_reducible apply bD | with_reducible apply bA))).mono ?_; rintro e u ⟨us, up, rfl, ho, hb⟩; dsimp only at ho; obtain ⟨mA, ma, mB, mb, rfl, rfl⟩ := ho.shape; have QM : Hid (Own u _ _ (.slice mA yl.length ma) (.slice mB yp.length mb) yl yp) := ho; clear ho; have NU : Hid (Below V.heap.size V u) := bT (by repeat' (first | with_reducible exact NU.out | with_reducible apply bD | with_reducible apply bA)) hb; clear kS; have kS := KC.out _ NU.out; clear hb)
        | (go_at_call 13; refine (KS.out _ (by repeat' (first | with_reducible exact NU.out | with_reducible apply bD | with_reducible apply bA))).mono ?_; rintro e u ⟨us, up, rfl, ho, hb⟩; dsimp only at ho; obtain ⟨mA, ma, mB, mb, rfl, rfl⟩ := ho.shape; have QM : Hid (Own u _ _ (.slice mA xl.length ma) (.slice mB xp.length mb) xl xp) := ho; clear ho; have NU : Hid (Below V.heap.size V u) := bT (by repeat' (first | with_reducible exact NU.out | with_reducible apply bD | with_reducible apply bA)) hb; clear kS; have kS := KC.out _ NU.out; clear hb)
        | (go_at_call 18; refine (lwDisk_any _ _ _ _ xl xp _ (by refine Strs.below X5.out.s ?_; repeat' (first | with_reducible exact NU.out | with_reducible apply bD | with_reducible apply bA)) (by refine Pends.below X5.out.p ?_; repeat' (first | with_reducible exact NU.out | with_reducible apply bD | with_reducible apply bA)) (by refine Strs.below (Own.strs QM.out) ?_; repeat' (first | with_reducible exact Below.refl _ _ | with_reducible apply bD | with_reducible apply bA)) (by refine Pends.below (Own.pends QM.out) ?_; repeat' (first | with_reducible exact Below.refl _ _ | with_reducible apply bD | with_reducible apply bA)) FX.out.n FX.out.m).mono ?_; rintro e u ⟨rfl, hb⟩; clear QM; have NU : Hid (Below V.heap.size V u) := bT (by repeat' (first | with_reducible exact NU.out | with_reducible apply bD | with_reducible apply bA)) hb; clear kS; have kS := KC.out _ NU.out; clear hb))
    go_wp2
    go_ret
    exact ⟨rfl, bT B5.out (by repeat' (first | with_reducible exact NU.out | with_reducible apply bD | with_reducible apply bA))⟩
  have hxb : (xc != 0) = false := by simp [hxc]
  by_cases hyc : yc = 0
  rotate_left
  · have hyb : (yc != 0) = true := by simp [hyc]
    clear hxc hyc HKV
    go_region_held3 (fun w' => w'.cell? ⟨g1, 0, none⟩ = some (.slice dA dl.length da) ∧ w'.cell? ⟨g1, 1, none⟩ = some (.slice dB dp.length db) ∧ w'.cell? ⟨g3, 0, none⟩ = some (.slice qA ql.length qa) ∧ w'.cell? ⟨g3, 1, none⟩ = some (.slice qB qp.length qb) ∧ w'.cell? ⟨g3, 2, none⟩ = some (.string qt) ∧ w'.cell? ⟨g3, 3, none⟩ = some (.int .i64 qg) ∧ w'.cell? ⟨g3, 4, none⟩ = some (.int .i64 qc) ∧ w'.cell? ⟨g4, 0, none⟩ = some (.slice xA xl.length xa) ∧ w'.cell? ⟨g4, 1, none⟩ = some (.slice xB xp.length xb) ∧ w'.cell? ⟨g4, 2, none⟩ = some (.string xt) ∧ w'.cell? ⟨g4, 3, none⟩ = some (.int .i64 xg) ∧ w'.cell? ⟨g4, 4, none⟩ = some (.int .i64 xc) ∧ w'.cell? ⟨g5, 0, none⟩ = some (.slice yA yl.length ya) ∧ w'.cell? ⟨g5, 1, none⟩ = some (.slice yB yp.length yb) ∧ w'.cell? ⟨g5, 2, none⟩ = some (.string yt) ∧ w'.cell? ⟨g5, 3, none⟩ = some (.int .i64 yg) ∧ w'.cell? ⟨g5, 4, none⟩ = some (.int .i64 yc))
      (first | exact kS)
      (first
        | (go_at_call 13; refine (KS.out _ (by repeat' (first | with_reducible exact NU.out | with_reducible apply bD | with_reducible apply bA))).mono ?_; rintro e u ⟨us, up, rfl, ho, hb⟩; dsimp only at ho; obtain ⟨mA, ma, mB, mb, rfl, rfl⟩ := ho.shape; have QM : Hid (Own u _ _ (.slice mA xl.length ma) (.slice mB xp.length mb) xl xp) := ho; clear ho; have NU : Hid (Below V.heap.size V u) := bT (by repeat' (first | with_reducible exact NU.out | with_reducible apply bD | with_reducible apply bA)) hb; clear kS; have kS := KC.out _ NU.out; clear hb)
        | (go_at_call 18; refine (lwDisk_any _ _ _ _ xl xp _ (by refine Strs.below X5.out.s ?_; repeat' (first | with_reducible exact NU.out | with_reducible apply bD | with_reducible apply bA)) (by refine Pends.below X5.out.p ?_; repeat' (first | with_reducible exact NU.out | with_reducible apply bD | with_reducible apply bA)) (by refine Strs.below (Own.strs QM.out) ?_; repeat' (first | with_reducible exact Below.refl _ _ | with_reducible apply bD | with_reducible apply bA)) (by refine Pends.below (Own.pends QM.out) ?_; repeat' (first | with_reducible exact Below.refl _ _ | with_reducible apply bD | with_reducible apply bA)) FX.out.n FX.out.m).mono ?_; rintro e u ⟨rfl, hb⟩; clear QM; have NU : Hid (Below V.heap.size V u) := bT (by repeat' (first | with_reducible exact NU.out | with_reducible apply bD | with_reducible apply bA)) hb; clear kS; have kS := KC.out _ NU.out; clear hb; simp only [CutCall.shut_cut] at *))
    unfold Hid
    refine wpAnyH_take (i := 17) (v := ?_) rfl (by kernel_rfl) (by kernel_rfl) (by kernel_rfl) (fun _ _ _ h => h) (Or.inl ⟨by rfl, ?_⟩) kS ?_
    rotate_left
    · (intro w9 hS9; (try dsimp only at hS9); go_simp; (try with_reducible rfl))
    simp only [List.getElem_toArray, List.getElem_cons_succ, List.getElem_cons_zero, Act.put, List.setIfInBounds_toArray, List.set_cons_zero, List.set_cons_succ]
    refine wpAnyH_take (i := 18) (v := ?_) rfl (by kernel_rfl) (by kernel_rfl) (by kernel_rfl) (fun _ _ _ h => h) (Or.inl ⟨by rfl, ?_⟩) kS ?_
    rotate_left
    · (intro w9 hS9; (try dsimp only at hS9); go_simp; (try with_reducible rfl))
    simp only [List.getElem_toArray, List.getElem_cons_succ, List.getElem_cons_zero, Act.put, List.setIfInBounds_toArray, List.set_cons_zero, List.set_cons_succ]
    refine wpAnyH_take (i := 19) (v := ?_) rfl (by kernel_rfl) (by kernel_rfl) (by kernel_rfl) (fun _ _ _ h => h) (Or.inl ⟨by rfl, ?_⟩) kS ?_
    rotate_left
    · (intro w9 hS9; (try dsimp only at hS9); go_simp; (try with_reducible rfl))
    simp only [List.getElem_toArray, List.getElem_cons_succ, List.getElem_cons_zero, Act.put, List.setIfInBounds_toArray, List.set_cons_zero, List.set_cons_succ]
    refine wpAnyH_take (i := 20) (v := ?_) rfl (by kernel_rfl) (by kernel_rfl) (by kernel_rfl) (fun _ _ _ h => h) (Or.inl ⟨by rfl, ?_⟩) kS ?_
    rotate_left
    · (intro w9 hS9; (try dsimp only at hS9); go_simp; (try with_reducible rfl))
    simp only [List.getElem_toArray, List.getElem_cons_succ, List.getElem_cons_zero, Act.put, List.setIfInBounds_toArray, List.set_cons_zero, List.set_cons_succ]
    refine wpAnyH_take (i := 21) (v := ?_) rfl (by kernel_rfl) (by kernel_rfl) (by kernel_rfl) (fun _ _ _ h => h) (Or.inl ⟨by rfl, ?_⟩) kS ?_
    rotate_left
    · (intro w9 hS9; (try dsimp only at hS9); go_simp; (try with_reducible rfl))
    simp only [List.getElem_toArray, List.getElem_cons_succ, List.getElem_cons_zero, Act.put, List.setIfInBounds_toArray, List.set_cons_zero, List.set_cons_succ]
    refine wpAnyH_take (i := 22) (v := ?_) rfl (by kernel_rfl) (by kernel_rfl) (by kernel_rfl) (fun _ _ _ h => h) (Or.inl ⟨by rfl, ?_⟩) kS ?_
    rotate_left
    · (intro w9 hS9; (try dsimp only at hS9); go_simp; (try with_reducible rfl))
    simp only [List.getElem_toArray, List.getElem_cons_succ, List.getElem_cons_zero, Act.put, List.setIfInBounds_toArray, List.set_cons_zero, List.set_cons_succ]
    refine wpAnyH_take (i := 23) (v := ?_) rfl (by kernel_rfl) (by kernel_rfl) (by kernel_rfl) (fun _ _ _ h => h) (Or.inl ⟨by rfl, ?_⟩) kS ?_
    rotate_left
    · (intro w9 hS9; (try dsimp only at hS9); go_simp; (try with_reducible rfl))
    simp only [List.getElem_toArray, List.getElem_cons_succ, List.getElem_cons_zero, Act.put, List.setIfInBounds_toArray, List.set_cons_zero, List.set_cons_succ]
    refine wpAnyH_take (i := 24) (v := ?_) rfl (by kernel_rfl) (by kernel_rfl) (by kernel_rfl) (fun _ _ _ h => h) (Or.inl ⟨by rfl, ?_⟩) kS ?_
    rotate_left
    · (intro w9 hS9; (try dsimp only at hS9); go_simp; (try with_reducible rfl))
    simp only [List.getElem_toArray, List.getElem_cons_succ, List.getElem_cons_zero, Act.put, List.setIfInBounds_toArray, List.set_cons_zero, List.set_cons_succ]
    refine wpAnyH_take (i := 25) (v := ?_) rfl (by kernel_rfl) (by kernel_rfl) (by kernel_rfl) (fun _ _ _ h => h) (Or.inl ⟨by rfl, ?_⟩) kS ?_
    rotate_left
    · (intro w9 hS9; (try dsimp only at hS9); go_simp; (try with_reducible rfl))
    simp only [List.getElem_toArray, List.getElem_cons_succ, List.getElem_cons_zero, Act.put, List.setIfInBounds_toArray, List.set_cons_zero, List.set_cons_succ]
    refine wpAnyH_take (i := 26) (v := ?_) rfl (by kernel_rfl) (by kernel_rfl) (by kernel_rfl) (fun _ _ _ h => h) (Or.inl ⟨by rfl, ?_⟩) kS ?_
    rotate_left
    · (intro w9 hS9; (try dsimp only at hS9); go_simp; (try with_reducible rfl))
    simp only [List.getElem_toArray, List.getElem_cons_succ, List.getElem_cons_zero, Act.put, List.setIfInBounds_toArray, List.set_cons_zero, List.set_cons_succ]
    refine wpAnyH_take (i := 27) (v := ?_) rfl (by kernel_rfl) (by kernel_rfl) (by kernel_rfl) (fun _ _ _ h => h) (Or.inl ⟨by rfl, ?_⟩) kS ?_
    rotate_left
    · (intro w9 hS9; (try dsimp only at hS9); go_simp; (try with_reducible rfl))
    simp only [List.getElem_toArray, List.getElem_cons_succ, List.getElem_cons_zero, Act.put, List.setIfInBounds_toArray, List.set_cons_zero, List.set_cons_succ]
    refine wpAnyH_take (i := 28) (v := ?_) rfl (by kernel_rfl) (by kernel_rfl) (by kernel_rfl) (fun _ _ _ h => h) (Or.inl ⟨by rfl, ?_⟩) kS ?_
    rotate_left
    · (intro w9 hS9; (try dsimp only at hS9); go_simp; (try with_reducible rfl))
    simp only [List.getElem_toArray, List.getElem_cons_succ, List.getElem_cons_zero, Act.put, List.setIfInBounds_toArray, List.set_cons_zero, List.set_cons_succ]
    refine wpAnyH_take (i := 29) (v := ?_) rfl (by kernel_rfl) (by kernel_rfl) (by kernel_rfl) (fun _ _ _ h => h) (Or.inl ⟨by rfl, ?_⟩) kS ?_
    rotate_left
    · (intro w9 hS9; (try dsimp only at hS9); go_simp; (try with_reducible rfl))
    simp only [List.getElem_toArray, List.getElem_cons_succ, List.getElem_cons_zero, Act.put, List.setIfInBounds_toArray, List.set_cons_zero, List.set_cons_succ]
    first
      | (refine wpAnyH_take (i := 30) (v := _) rfl (by kernel_rfl) (by kernel_rfl) (by kernel_rfl) (fun _ _ _ h => h) (Or.inr ⟨by rfl, rfl⟩) kS ?_; simp only [List.getElem_toArray, List.getElem_cons_succ, List.getElem_cons_zero, Act.put, List.setIfInBounds_toArray, List.set_cons_zero, List.set_cons_succ])
      | (refine wpAnyH_ready (rs := [30]) (by kernel_rfl) (by simp) ?_; refine AllReadyH.cons rfl (fun K hK => ?_) AllReadyH.nil; rw [if_neg (by decide)]; refine hK.out _ _ kS (fun _ => ?_); clear hK K; simp only [List.getElem_toArray, List.getElem_cons_succ, List.getElem_cons_zero, Act.put, List.setIfInBounds_toArray, List.set_cons_zero, List.set_cons_succ])
    first
      | (refine wpAnyH_take (i := 31) (v := _) rfl (by kernel_rfl) (by kernel_rfl) (by kernel_rfl) (fun _ _ _ h => h) (Or.inr ⟨by rfl, rfl⟩) kS ?_; simp only [List.getElem_toArray, List.getElem_cons_succ, List.getElem_cons_zero, Act.put, List.setIfInBounds_toArray, List.set_cons_zero, List.set_cons_succ])
      | (refine wpAnyH_ready (rs := [31]) (by kernel_rfl) (by simp) ?_; refine AllReadyH.cons rfl (fun K hK => ?_) AllReadyH.nil; rw [if_neg (by decide)]; refine hK.out _ _ kS (fun _ => ?_); clear hK K; simp only [List.getElem_toArray, List.getElem_cons_succ, List.getElem_cons_zero, Act.put, List.setIfInBounds_toArray, List.set_cons_zero, List.set_cons_succ])
    first
      | (refine wpAnyH_take (i := 32) (v := _) rfl (by kernel_rfl) (by kernel_rfl) (by kernel_rfl) (fun _ _ _ h => h) (Or.inr ⟨by rfl, rfl⟩) kS ?_; simp only [List.getElem_toArray, List.getElem_cons_succ, List.getElem_cons_zero, Act.put, List.setIfInBounds_toArray, List.set_cons_zero, List.set_cons_succ])
      | (refine wpAnyH_ready (rs := [32]) (by kernel_rfl) (by simp) ?_; refine AllReadyH.cons rfl (fun K hK => ?_) AllReadyH.nil; rw [if_neg (by decide)]; refine hK.out _ _ kS (fun _ => ?_); clear hK K; simp only [List.getElem_toArray, List.getElem_cons_succ, List.getElem_cons_zero, Act.put, List.setIfInBounds_toArray, List.set_cons_zero, List.set_cons_succ])
    first
      | (refine wpAnyH_take (i := 33) (v := _) rfl (by kernel_rfl) (by kernel_rfl) (by kernel_rfl) (fun _ _ _ h => h) (Or.inr ⟨by rfl, rfl⟩) kS ?_; simp only [List.getElem_toArray, List.getElem_cons_succ, List.getElem_cons_zero, Act.put, List.setIfInBounds_toArray, List.set_cons_zero, List.set_cons_succ])
      | (refine wpAnyH_ready (rs := [33]) (by kernel_rfl) (by simp) ?_; refine AllReadyH.cons rfl (fun K hK => ?_) AllReadyH.nil; rw [if_neg (by decide)]; refine hK.out _ _ kS (fun _ => ?_); clear hK K; simp only [List.getElem_toArray, List.getElem_cons_succ, List.getElem_cons_zero, Act.put, List.setIfInBounds_toArray, List.set_cons_zero, List.set_cons_succ])
    refine wpAnyH_take (i := 34) (v := ?_) rfl (by kernel_rfl) (by kernel_rfl) (by kernel_rfl) (fun _ _ _ h => h) (Or.inl ⟨by rfl, ?_⟩) kS ?_
    rotate_left
    · (intro w9 hS9; (try dsimp only at hS9); go_simp; (try with_reducible rfl))
    simp only [List.getElem_toArray, List.getElem_cons_succ, List.getElem_cons_zero, Act.put, List.setIfInBounds_toArray, List.set_cons_zero, List.set_cons_succ]
    refine wpAnyH_done (by kernel_rfl) ?_ _
    refine NoPanic.normal ?_
    go_wp2_with fail
    go_region_held3 (fun w' => w'.cell? ⟨g1, 0, none⟩ = some (.slice dA dl.length da) ∧ w'.cell? ⟨g1, 1, none⟩ = some (.slice dB dp.length db) ∧ w'.cell? ⟨g3, 0, none⟩ = some (.slice qA ql.length qa) ∧ w'.cell? ⟨g3, 1, none⟩ = some (.slice qB qp.length qb) ∧ w'.cell? ⟨g3, 2, none⟩ = some (.string qt) ∧ w'.cell? ⟨g3, 3, none⟩ = some (.int .i64 qg) ∧ w'.cell? ⟨g3, 4, none⟩ = some (.int .i64 qc) ∧ w'.cell? ⟨g4, 0, none⟩ = some (.slice xA xl.length xa) ∧ w'.cell? ⟨g4, 1, none⟩ = some (.slice xB xp.length xb) ∧ w'.cell? ⟨g4, 2, none⟩ = some (.string xt) ∧ w'.cell? ⟨g4, 3, none⟩ = some (.int .i64 xg) ∧ w'.cell? ⟨g4, 4, none⟩ = some (.int .i64 xc) ∧ w'.cell? ⟨g5, 0, none⟩ = some (.slice yA yl.length ya) ∧ w'.cell? ⟨g5, 1, none⟩ = some (.slice yB yp.length yb) ∧ w'.cell? ⟨g5, 2, none⟩ = some (.string yt) ∧ w'.cell? ⟨g5, 3, none⟩ = some (.int .i64 yg) ∧ w'.cell? ⟨g5, 4, none⟩ = some (.int .i64 yc))
      (first | exact kS)
      (first
        | (go_at_call_of 13 (Value.int .i64 1000); refine (KY.out _ (by repeat' (first | with_reducible exact NU.out | with_reducible apply bD | with_reducible apply bA))).mono ?_; rintro e u ⟨us, up, rfl, ho, hb⟩; dsimp only at ho; obtain ⟨mA, ma, mB, mb, rfl, rfl⟩ := ho.shape; have QM : Hid (Own u _ _ (.slice mA yl.length ma) (.slice mB yp.length mb) yl yp) := ho; clear ho; have NU : Hid (Below V.heap.size V u) := bT (by repeat' (first | with_reducible exact NU.out | with_reducible apply bD | with_reducible apply bA)) hb; clear kS; have kS := KC.out _ NU.out; clear hb)
        | (go_at_call 13; refine (KS.out _ (by repeat' (first | with_reducible exact NU.out | with_reducible apply bD | with_reducible apply bA))).mono ?_; rintro e u ⟨us, up, rfl, ho, hb⟩; dsimp only at ho; obtain ⟨mA, ma, mB, mb, rfl, rfl⟩ := ho.shape; have QM : Hid (Own u _ _ (.slice mA xl.length ma) (.slice mB xp.length mb) xl xp) := ho; clear ho; have NU : Hid (Below V.heap.size V u) := bT (by repeat' (first | with_reducible exact NU.out | with_reducible apply bD | with_reducible apply bA)) hb; clear kS; have kS := KC.out _ NU.out; clear hb)
        | (go_at_call 18; refine (lwDisk_any _ _ _ _ xl xp _ (by refine Strs.below X5.out.s ?_; repeat' (first | with_reducible exact NU.out | with_reducible apply bD | with_reducible apply bA)) (by refine Pends.below X5.out.p ?_; repeat' (first | with_reducible exact NU.out | with_reducible apply bD | with_reducible apply bA)) (by refine Strs.below (Own.strs QM.out) ?_; repeat' (first | with_reducible exact Below.refl _ _ | with_reducible apply bD | with_reducible apply bA)) (by refine Pends.below (Own.pends QM.out) ?_; repeat' (first | with_reducible exact Below.refl _ _ | with_reducible apply bD | with_reducible apply bA)) FX.out.n FX.out.m).mono ?_; rintro e u ⟨rfl, hb⟩; clear QM; have NU : Hid (Below V.heap.size V u) := bT (by repeat' (first | with_reducible exact NU.out | with_reducible apply bD | with_reducible apply bA)) hb; clear kS; have kS := KC.out _ NU.out; clear hb))
    go_wp2
    go_ret
    exact ⟨rfl, bT B5.out (by repeat' (first | with_reducible exact NU.out | with_reducible apply bD | with_reducible apply bA))⟩
  have hyb : (yc != 0) = false := by simp [hyc]
  by_cases hdp : dp = []
  rotate_left
  · have hd1 : 0 < dp.length := List.length_pos_iff.2 hdp
    have hd2 : (0 : Int) < (dp.length : Int) := by omega
    have hd3 : decide ((0 : Int) < (dp.length : Int)) = true := decide_eq_true hd2
    clear hxc hyc HKV hdp hd1
    go_region_held3 (fun w' => w'.cell? ⟨g1, 0, none⟩ = some (.slice dA dl.length da) ∧ w'.cell? ⟨g1, 1, none⟩ = some (.slice dB dp.length db) ∧ w'.cell? ⟨g3, 0, none⟩ = some (.slice qA ql.length qa) ∧ w'.cell? ⟨g3, 1, none⟩ = some (.slice qB qp.length qb) ∧ w'.cell? ⟨g3, 2, none⟩ = some (.string qt) ∧ w'.cell? ⟨g3, 3, none⟩ = some (.int .i64 qg) ∧ w'.cell? ⟨g3, 4, none⟩ = some (.int .i64 qc) ∧ w'.cell? ⟨g4, 0, none⟩ = some (.slice xA xl.length xa) ∧ w'.cell? ⟨g4, 1, none⟩ = some (.slice xB xp.length xb) ∧ w'.cell? ⟨g4, 2, none⟩ = some (.string xt) ∧ w'.cell? ⟨g4, 3, none⟩ = some (.int .i64 xg) ∧ w'.cell? ⟨g4, 4, none⟩ = some (.int .i64 xc) ∧ w'.cell? ⟨g5, 0, none⟩ = some (.slice yA yl.length ya) ∧ w'.cell? ⟨g5, 1, none⟩ = some (.slice yB yp.length yb) ∧ w'.cell? ⟨g5, 2, none⟩ = some (.string yt) ∧ w'.cell? ⟨g5, 3, none⟩ = some (.int .i64 yg) ∧ w'.cell? ⟨g5, 4, none⟩ = some (.int .i64 yc))
      (first | exact kS)
      (first
        | (go_at_call 13; refine (KS.out _ (by repeat' (first | with_reducible exact NU.out | with_reducible apply bD | with_reducible apply bA))).mono ?_; rintro e u ⟨us, up, rfl, ho, hb⟩; dsimp only at ho; obtain ⟨mA, ma, mB, mb, rfl, rfl⟩ := ho.shape; have QM : Hid (Own u _ _ (.slice mA xl.length ma) (.slice mB xp.length mb) xl xp) := ho; clear ho; have NU : Hid (Below V.heap.size V u) := bT (by repeat' (first | with_reducible exact NU.out | with_reducible apply bD | with_reducible apply bA)) hb; clear kS; have kS := KC.out _ NU.out; clear hb)
        | (go_at_call 18; refine (lwDisk_any _ _ _ _ xl xp _ (by refine Strs.below X5.out.s ?_; repeat' (first | with_reducible exact NU.out | with_reducible apply bD | with_reducible apply bA)) (by refine Pends.below X5.out.p ?_; repeat' (first | with_reducible exact NU.out | with_reducible apply bD | with_reducible apply bA)) (by refine Strs.below (Own.strs QM.out) ?_; repeat' (first | with_reducible exact Below.refl _ _ | with_reducible apply bD | with_reducible apply bA)) (by refine Pends.below (Own.pends QM.out) ?_; repeat' (first | with_reducible exact Below.refl _ _ | with_reducible apply bD | with_reducible apply bA)) FX.out.n FX.out.m).mono ?_; rintro e u ⟨rfl, hb⟩; clear QM; have NU : Hid (Below V.heap.size V u) := bT (by repeat' (first | with_reducible exact NU.out | with_reducible apply bD | with_reducible apply bA)) hb; clear kS; have kS := KC.out _ NU.out; clear hb))
    go_wp2_with fail
    go_region_held3 (fun w' => w'.cell? ⟨g1, 0, none⟩ = some (.slice dA dl.length da) ∧ w'.cell? ⟨g1, 1, none⟩ = some (.slice dB dp.length db) ∧ w'.cell? ⟨g3, 0, none⟩ = some (.slice qA ql.length qa) ∧ w'.cell? ⟨g3, 1, none⟩ = some (.slice qB qp.length qb) ∧ w'.cell? ⟨g3, 2, none⟩ = some (.string qt) ∧ w'.cell? ⟨g3, 3, none⟩ = some (.int .i64 qg) ∧ w'.cell? ⟨g3, 4, none⟩ = some (.int .i64 qc) ∧ w'.cell? ⟨g4, 0, none⟩ = some (.slice xA xl.length xa) ∧ w'.cell? ⟨g4, 1, none⟩ = some (.slice xB xp.length xb) ∧ w'.cell? ⟨g4, 2, none⟩ = some (.string xt) ∧ w'.cell? ⟨g4, 3, none⟩ = some (.int .i64 xg) ∧ w'.cell? ⟨g4, 4, none⟩ = some (.int .i64 xc) ∧ w'.cell? ⟨g5, 0, none⟩ = some (.slice yA yl.length ya) ∧ w'.cell? ⟨g5, 1, none⟩ = some (.slice yB yp.length yb) ∧ w'.cell? ⟨g5, 2, none⟩ = some (.string yt) ∧ w'.cell? ⟨g5, 3, none⟩ = some (.int .i64 yg) ∧ w'.cell? ⟨g5, 4, none⟩ = some (.int .i64 yc))
      (first | exact kS)
      (first
        | (go_at_call_of 13 (Value.int .i64 1000); refine (KY.out _ (by repeat' (first | with_reducible exact NU.out | with_reducible apply bD | with_reducible apply bA))).mono ?_; rintro e u ⟨us, up, rfl, ho, hb⟩; dsimp only at ho; obtain ⟨mA, ma, mB, mb, rfl, rfl⟩ := ho.shape; have QM : Hid (Own u _ _ (.slice mA yl.length ma) (.slice mB yp.length mb) yl yp) := ho; clear ho; have NU : Hid (Below V.heap.size V u) := bT (by repeat' (first | with_reducible exact NU.out | with_reducible apply bD | with_reducible apply bA)) hb; clear kS; have kS := KC.out _ NU.out; clear hb)
        | (go_at_call 13; refine (KS.out _ (by repeat' (first | with_reducible exact NU.out | with_reducible apply bD | with_reducible apply bA))).mono ?_; rintro e u ⟨us, up, rfl, ho, hb⟩; dsimp only at ho; obtain ⟨mA, ma, mB, mb, rfl, rfl⟩ := ho.shape; have QM : Hid (Own u _ _ (.slice mA xl.length ma) (.slice mB xp.length mb) xl xp) := ho; clear ho; have NU : Hid (Below V.heap.size V u) := bT (by repeat' (first | with_reducible exact NU.out | with_reducible apply bD | with_reducible apply bA)) hb; clear kS; have kS := KC.out _ NU.out; clear hb)
        | (go_at_call 18; refine (lwDisk_any _ _ _ _ xl xp _ (by refine Strs.below X5.out.s ?_; repeat' (first | with_reducible exact NU.out | with_reducible apply bD | with_reducible apply bA)) (by refine Pends.below X5.out.p ?_; repeat' (first | with_reducible exact NU.out | with_reducible apply bD | with_reducible apply bA)) (by refine Strs.below (Own.strs QM.out) ?_; repeat' (first | with_reducible exact Below.refl _ _ | with_reducible apply bD | with_reducible apply bA)) (by refine Pends.below (Own.pends QM.out) ?_; repeat' (first | with_reducible exact Below.refl _ _ | with_reducible apply bD | with_reducible apply bA)) FX.out.n FX.out.m).mono ?_; rintro e u ⟨rfl, hb⟩; clear QM; have NU : Hid (Below V.heap.size V u) := bT (by repeat' (first | with_reducible exact NU.out | with_reducible apply bD | with_reducible apply bA)) hb; clear kS; have kS := KC.out _ NU.out; clear hb))
    go_wp2
    go_ret
    exact ⟨rfl, bT B5.out (by repeat' (first | with_reducible exact NU.out | with_reducible apply bD | with_reducible apply bA))⟩
  have hd2 : ¬ (0 : Int) < (dp.length : Int) := by rw [hdp]; decide
  have hd3 : decide ((0 : Int) < (dp.length : Int)) = false := decide_eq_false hd2
  have HTX : Hid _ := torn_all (ls := dl) (s := t) (x := st) kp hkn (by rw [← hdp, HOX.out]; exact hxc)
  have HTY : Hid _ := torn_all (ls := dl) (s := t) (x := 1000) kp hkn (by rw [← hdp, HOY.out]; exact hyc)
  rw [← hdp, HOX.out, HOQ.out] at HTX
  rw [← hdp, HOY.out, HOQ.out] at HTY
  dsimp only at HTX HTY
  have HYR : Hid _ := HTY.out.1.resolve_left (fun h => absurd h.2 (by decide))
  have hqg0 := HTX.out.2.1
  have hqg1 := HTX.out.2.2
  have HXR : Hid _ := HTX.out.1
  clear HTX HTY hdp
  obtain ⟨O, hO⟩ : ∃ O, O = crashO xl xp kp := ⟨_, rfl⟩
  have FA : Hid (Fits O.1 O.2) := by rw [hO]; exact crashO_fits kp FX.out
  rw [← hO] at HXR
  obtain ⟨al, ap⟩ := O
  dsimp only at FA HXR
  have KCX : Hid (∀ W, Below V.heap.size V W → Calls Tryz.prog 19 #[.agg #[.slice xA xl.length xa, .slice xB xp.length xb], vk] W fun e w' => ToldD W al ap e w') := fun W hb => by
    have h := implCrash_any _ _ vk xl xp kp W (X5.out.s.below hb) (X5.out.p.below hb) (HKV.out _ hb) (by omega) FX.out
    rw [← hO] at h
    exact h
  clear hO
  obtain ⟨O, hO⟩ : ∃ O, O = crashO yl yp kp := ⟨_, rfl⟩
  have FB : Hid (Fits O.1 O.2) := by rw [hO]; exact crashO_fits kp FY.out
  rw [← hO] at HYR
  obtain ⟨bl, bp⟩ := O
  dsimp only at FB HYR
  have KCY : Hid (∀ W, Below V.heap.size V W → Calls Tryz.prog 19 #[.agg #[.slice yA yl.length ya, .slice yB yp.length yb], vk] W fun e w' => ToldD W bl bp e w') := fun W hb => by
    have h := implCrash_any _ _ vk yl yp kp W (Y5.out.s.below hb) (Y5.out.p.below hb) (HKV.out _ hb) (by omega) FY.out
    rw [← hO] at h
    exact h
  clear hO
  have KB : Hid (∀ (W : World) (us up : Value), Strs W us bl → Pends W up bp → Below V.heap.size V W → Calls Tryz.prog 8 #[.agg #[us, up]] W fun e w' => ToldA W ⟨bl, bp, t, qg + 1, 0⟩ e w') := fun W us up h1 h2 hb => by
    rw [← HYR.out]
    exact implARead_any A us up bl bp W h1 h2 FB.out (HSL.out.below (bT B5.out hb)) (GetNum.laid_below HLA.out (bT B5.out hb))
  clear HYR
  have KA : Hid (∃ (zt : ByteArray) (zg : Int), (zt = qt ∧ zg = qg ∨ zt = t ∧ zg = qg + 1) ∧ ∀ (W : World) (us up : Value), Strs W us al → Pends W up ap → Below V.heap.size V W → Calls Tryz.prog 8 #[.agg #[us, up]] W fun e w' => ToldA W ⟨al, ap, zt, zg, 0⟩ e w') := by
    rcases HXR.out with ⟨h, _⟩ | h
    · exact ⟨qt, qg, .inl ⟨rfl, rfl⟩, fun W us up h1 h2 hb => by
        rw [← h]
        exact implARead_any A us up al ap W h1 h2 FA.out (HSL.out.below (bT B5.out hb)) (GetNum.laid_below HLA.out (bT B5.out hb))⟩
    · exact ⟨t, qg + 1, .inr ⟨rfl, rfl⟩, fun W us up h1 h2 hb => by
        rw [← h]
        exact implARead_any A us up al ap W h1 h2 FA.out (HSL.out.below (bT B5.out hb)) (GetNum.laid_below HLA.out (bT B5.out hb))⟩
  clear HXR HKV hxc hyc
  obtain ⟨zt, zg, hz, hka⟩ := KA.out
  have KA : Hid _ := hka
  have HZ : Hid _ := hz
  clear hka hz
  go_region_held3 (fun w' => w'.cell? ⟨g1, 0, none⟩ = some (.slice dA dl.length da) ∧ w'.cell? ⟨g1, 1, none⟩ = some (.slice dB dp.length db) ∧ w'.cell? ⟨g3, 0, none⟩ = some (.slice qA ql.length qa) ∧ w'.cell? ⟨g3, 1, none⟩ = some (.slice qB qp.length qb) ∧ w'.cell? ⟨g3, 2, none⟩ = some (.string qt) ∧ w'.cell? ⟨g3, 3, none⟩ = some (.int .i64 qg) ∧ w'.cell? ⟨g3, 4, none⟩ = some (.int .i64 qc) ∧ w'.cell? ⟨g4, 0, none⟩ = some (.slice xA xl.length xa) ∧ w'.cell? ⟨g4, 1, none⟩ = some (.slice xB xp.length xb) ∧ w'.cell? ⟨g4, 2, none⟩ = some (.string xt) ∧ w'.cell? ⟨g4, 3, none⟩ = some (.int .i64 xg) ∧ w'.cell? ⟨g4, 4, none⟩ = some (.int .i64 xc) ∧ w'.cell? ⟨g5, 0, none⟩ = some (.slice yA yl.length ya) ∧ w'.cell? ⟨g5, 1, none⟩ = some (.slice yB yp.length yb) ∧ w'.cell? ⟨g5, 2, none⟩ = some (.string yt) ∧ w'.cell? ⟨g5, 3, none⟩ = some (.int .i64 yg) ∧ w'.cell? ⟨g5, 4, none⟩ = some (.int .i64 yc))
    (first | exact kS)
    (first
      | (go_at_call 13; refine (KS.out _ (by repeat' (first | with_reducible exact NU.out | with_reducible apply bD | with_reducible apply bA))).mono ?_; rintro e u ⟨us, up, rfl, ho, hb⟩; dsimp only at ho; obtain ⟨mA, ma, mB, mb, rfl, rfl⟩ := ho.shape; have QM : Hid (Own u _ _ (.slice mA xl.length ma) (.slice mB xp.length mb) xl xp) := ho; clear ho; have NU : Hid (Below V.heap.size V u) := bT (by repeat' (first | with_reducible exact NU.out | with_reducible apply bD | with_reducible apply bA)) hb; clear kS; have kS := KC.out _ NU.out; clear hb)
      | (go_at_call 18; refine (lwDisk_any _ _ _ _ xl xp _ (by refine Strs.below X5.out.s ?_; repeat' (first | with_reducible exact NU.out | with_reducible apply bD | with_reducible apply bA)) (by refine Pends.below X5.out.p ?_; repeat' (first | with_reducible exact NU.out | with_reducible apply bD | with_reducible apply bA)) (by refine Strs.below (Own.strs QM.out) ?_; repeat' (first | with_reducible exact Below.refl _ _ | with_reducible apply bD | with_reducible apply bA)) (by refine Pends.below (Own.pends QM.out) ?_; repeat' (first | with_reducible exact Below.refl _ _ | with_reducible apply bD | with_reducible apply bA)) FX.out.n FX.out.m).mono ?_; rintro e u ⟨rfl, hb⟩; clear QM; have NU : Hid (Below V.heap.size V u) := bT (by repeat' (first | with_reducible exact NU.out | with_reducible apply bD | with_reducible apply bA)) hb; clear kS; have kS := KC.out _ NU.out; clear hb))
  go_wp2_with fail
  refine (KCX.out _ (by repeat' (first | with_reducible exact NU.out | with_reducible apply bD | with_reducible apply bA))).mono ?_
  rintro e u5 ⟨us, up, rfl, ho, hb⟩
  obtain ⟨aA, aa, aB, ab, rfl, rfl⟩ := ho.shape
  have NU : Hid (Below V.heap.size V u5) := bT (by repeat' (first | with_reducible exact NU.out | with_reducible apply bD | with_reducible apply bA)) hb
  have QA : Hid (Own u5 _ _ (.slice aA al.length aa) (.slice aB ap.length ab) al ap) := ho
  clear ho hb kS
  go_wp2_with fail
  refine (KA.out _ _ _ (by refine Strs.below (Own.strs QA.out) ?_; repeat' (first | with_reducible exact Below.refl _ _ | with_reducible apply bD | with_reducible apply bA)) (by refine Pends.below (Own.pends QA.out) ?_; repeat' (first | with_reducible exact Below.refl _ _ | with_reducible apply bD | with_reducible apply bA)) (by repeat' (first | with_reducible exact NU.out | with_reducible apply bD | with_reducible apply bA))).mono ?_
  rintro e u6 ⟨us, up, rfl, ho, hb⟩
  dsimp only at ho
  obtain ⟨nA, na, nB, nb, rfl, rfl⟩ := ho.shape
  have XA : Hid (BoxE _ u6.heap.size nA na nB nb al ap zt zg 0) := boxE_new zt zg 0 ho.strs ho.pends
  have NB : Hid (Below V.heap.size V (u6.alloc (.cells #[.slice nA al.length na, .slice nB ap.length nb, .string zt, .int .i64 zg, .int .i64 0] 31))) := bA (bT (by repeat' (first | with_reducible exact NU.out | with_reducible apply bD | with_reducible apply bA)) hb) _
  have kS := KC.out _ NB.out
  obtain ⟨U, hU⟩ : ∃ U, U = u6.alloc (.cells #[.slice nA al.length na, .slice nB ap.length nb, .string zt, .int .i64 zg, .int .i64 0] 31) := ⟨_, rfl⟩
  rw [← hU] at XA NB
  clear ho hb QA NU
  go_wp2_with fail
  rw [← hU]
  clear kS hU
  generalize u6.heap.size = ga at *
  refine (KCY.out _ NB.out).mono ?_
  rintro e u7 ⟨us, up, rfl, ho, hb⟩
  obtain ⟨oA, oa, oB, ob, rfl, rfl⟩ := ho.shape
  have M7 : Hid (Below U.heap.size U u7) := hb
  have QB : Hid (Own u7 _ _ (.slice oA bl.length oa) (.slice oB bp.length ob) bl bp) := ho
  have NC : Hid (Below V.heap.size V u7) := bT NB.out hb
  clear ho hb
  go_wp2_with fail
  refine (KB.out _ _ _ (by refine Strs.below (Own.strs QB.out) ?_; repeat' (first | with_reducible exact Below.refl _ _ | with_reducible apply bD | with_reducible apply bA)) (by refine Pends.below (Own.pends QB.out) ?_; repeat' (first | with_reducible exact Below.refl _ _ | with_reducible apply bD | with_reducible apply bA)) (by repeat' (first | with_reducible exact NC.out | with_reducible apply bD | with_reducible apply bA))).mono ?_
  rintro e u8 ⟨us, up, rfl, ho, hb⟩
  dsimp only at ho
  obtain ⟨pA, pa, pB, pb, rfl, rfl⟩ := ho.shape
  have M8 : Hid (Below U.heap.size U u8) := bT (by repeat' (first | with_reducible exact M7.out | with_reducible apply bD | with_reducible apply bA)) hb
  have M9 : Hid (Below U.heap.size U (u8.alloc (.cells #[.slice pA bl.length pa, .slice pB bp.length pb, .string t, .int .i64 (qg + 1), .int .i64 0] 31))) := bA M8.out _
  have kA := (XA.out.below M9.out).b.cells
  have kS := KC.out _ (bT NB.out M9.out)
  clear ho hb QB NC KB KCX KCY
  have htt : (t == t) = true := beqB t
  have htn : (t != t) = false := by simp [bne, htt]
  have hwr : IntKind.i64.wrap (qg + 1) = qg + 1 := IntWalk.i64_in _ ⟨by omega, by omega⟩
  have hne : (qg + 1 == qg) = false := by simp; omega
  rcases HZ.out with ⟨rfl, rfl⟩ | ⟨rfl, rfl⟩
  · have hqq : (zt == zt) = true := beqB zt
    have hgg : (zg == zg) = true := by simp
    go_wp2
    go_ret
    exact ⟨rfl, bT B5.out (bT NB.out (by repeat' (first | with_reducible exact M8.out | with_reducible apply bD | with_reducible apply bA)))⟩
  · by_cases hq : (zt == qt) = true
    · go_wp2
      all_goals (go_ret; exact ⟨rfl, bT B5.out (bT NB.out (by repeat' (first | with_reducible exact M8.out | with_reducible apply bD | with_reducible apply bA)))⟩)
    · have hq2 : (zt == qt) = false := by simpa using hq
      clear hq
      go_wp2
      all_goals (go_ret; exact ⟨rfl, bT B5.out (bT NB.out (by repeat' (first | with_reducible exact M8.out | with_reducible apply bD | with_reducible apply bA)))⟩)
end Go.Proofs.YtkigmpeanllimaaGreatDoor.Disk
