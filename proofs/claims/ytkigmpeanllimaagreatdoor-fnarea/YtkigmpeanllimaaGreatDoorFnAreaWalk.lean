/- The promise on areas: the walk. -/
import Derived.Test.YtkigmpeanllimaaGreatDoorDrawAreas
import Derived.Test.YtkigmpeanllimaaGreatDoorTextsE
import Derived.Test.YtkigmpeanllimaaGreatDoorAreaGlue
import Derived.Test.YtkigmpeanllimaaGreatDoorImplARead
import Derived.Test.YtkigmpeanllimaaGreatDoorImplPut2
import Derived.Test.YtkigmpeanllimaaGreatDoorTextsF
import Derived.Test.YtkigmpeanllimaaGreatDoorSpecARead
import Derived.Test.YtkigmpeanllimaaGreatDoorSpecPut
import Derived.Test.YtkigmpeanllimaaGreatDoorSpecFormat
namespace Go.Proofs.YtkigmpeanllimaaGreatDoor.Disk
open Go.RowKit Go.Proofs.YtkigmpeanllimaaGreatDoor.Mem Go.Proofs.YtkigmpeanllimaaGreatDoor.Harn Go.Proofs.YtkigmpeanllimaaGreatDoor.DiskP Go.Proofs.YtkigmpeanllimaaGreatDoor.Draw

set_option maxRecDepth 100000 in
set_option maxHeartbeats 8000000 in
theorem area_law (a0 : Option Addr) (len0 cap0 : Nat) (z0 : List Int) (a1 : Option Addr) (len1 cap1 : Nat) (z1 : List Int) (A : Nat → Addr) (w : World) (hSL : Sent.SentsLaid w A Sent.sentL) (hLA : GetNum.Laid w) (h0 : IsRow w a0 len0 cap0 z0) (h1 : IsRow w a1 len1 cap1 z1) :
    Calls Tryz.prog 3 #[.slice a0 len0 cap0, .slice a1 len1 cap1] w fun e w' => e = .returned (.bool true) ∧ Below w.heap.size w w' := by
  have hl0 := row_len h0
  have hl1 := row_len h1
  unfold maxLen at hl0 hl1
  have H0 : Hid (∀ W, Below w.heap.size w W → IsRow W a0 len0 cap0 z0) := fun W hb => Draw.row_below h0 hb
  have H1 : Hid (∀ W, Below w.heap.size w W → IsRow W a1 len1 cap1 z1) := fun W hb => Draw.row_below h1 hb
  have HSL : Hid (Sent.SentsLaid w A Sent.sentL) := hSL
  have HLA : Hid (GetNum.Laid w) := hLA
  clear h0 h1 hSL hLA
  by_cases b0 : 1048576 < len0
  · go_enter Tryz.func3, Tryz.ntmps3
    go_wp2
    go_ret
    exact ⟨rfl, Below.refl _ _⟩
  by_cases b1 : 1048576 < len1
  · have hd0 : decide (1048576 < (len0 : Int)) = false := decide_eq_false (by omega)
    go_enter Tryz.func3, Tryz.ntmps3
    go_wp2
    go_ret
    exact ⟨rfl, Below.refl _ _⟩
  have hd0 : decide (1048576 < (len0 : Int)) = false := decide_eq_false (by omega)
  have hd1 : decide (1048576 < (len1 : Int)) = false := decide_eq_false (by omega)
  go_enter Tryz.func3, Tryz.ntmps3
  go_wp2_with fail
  refine (drawAPut_any _ a0 len0 cap0 z0 (H0.out _ (Below.refl _ _))).mono ?_
  rintro e w1 ⟨us, up, dl, dp, t, st, rfl, hg, ht, hst0, hst7⟩
  obtain ⟨dA, da, dB, db, rfl, rfl⟩ := hg.1.shape
  have FD : Hid (Fits dl dp) := hg.2.1.fits
  have D1 : Hid (BoxD _ w1.heap.size dA da dB db dl dp) := boxD_new hg.1.strs hg.1.pends
  have B1 : Hid (Below w.heap.size w (w1.alloc (.cells #[.slice dA dl.length da, .slice dB dp.length db] 26))) := bA hg.2.2 _
  obtain ⟨W1, hW1⟩ : ∃ W1, W1 = w1.alloc (.cells #[.slice dA dl.length da, .slice dB dp.length db] 26) := ⟨_, rfl⟩
  rw [← hW1] at D1 B1
  clear hg
  go_wp2_with fail
  rw [← hW1]
  clear hW1
  refine (drawAFormat_any _ a1 len1 cap1 z1 (H1.out _ B1.out)).mono ?_
  rintro e w2 ⟨us, up, fl, fp, rfl, hg⟩
  obtain ⟨fA, fa, fB, fb, rfl, rfl⟩ := hg.1.shape
  have FF : Hid (Fits fl fp) := hg.2.1.fits
  have F2 : Hid (BoxD _ w2.heap.size fA fa fB fb fl fp) := boxD_new hg.1.strs hg.1.pends
  have N2 : Hid (Below W1.heap.size W1 (w2.alloc (.cells #[.slice fA fl.length fa, .slice fB fp.length fb] 26))) := bA hg.2.2 _
  obtain ⟨W2, hW2⟩ : ∃ W2, W2 = w2.alloc (.cells #[.slice fA fl.length fa, .slice fB fp.length fb] 26) := ⟨_, rfl⟩
  rw [← hW2] at F2 N2
  clear hg
  have B2 : Hid (Below w.heap.size w W2) := bT B1.out N2.out
  have D2 : Hid (BoxD W2 w1.heap.size dA da dB db dl dp) := D1.out.below N2.out
  clear D1
  go_wp2_with fail
  rw [← hW2]
  clear hW2
  refine (drawARead_any _ a1 len1 cap1 z1 (H1.out _ B2.out)).mono ?_
  rintro e w3 ⟨us, up, rl, rp, rfl, hg⟩
  obtain ⟨rA, ra, rB, rb, rfl, rfl⟩ := hg.1.shape
  have FR : Hid (Fits rl rp) := hg.2.1.fits
  have R3 : Hid (BoxD _ w3.heap.size rA ra rB rb rl rp) := boxD_new hg.1.strs hg.1.pends
  have N3 : Hid (Below W2.heap.size W2 (w3.alloc (.cells #[.slice rA rl.length ra, .slice rB rp.length rb] 26))) := bA hg.2.2 _
  obtain ⟨W3, hW3⟩ : ∃ W3, W3 = w3.alloc (.cells #[.slice rA rl.length ra, .slice rB rp.length rb] 26) := ⟨_, rfl⟩
  rw [← hW3] at R3 N3
  clear hg
  have B3 : Hid (Below w.heap.size w W3) := bT B2.out N3.out
  have D3 : Hid (BoxD W3 w1.heap.size dA da dB db dl dp) := D2.out.below N3.out
  clear D2
  have F3 : Hid (BoxD W3 w2.heap.size fA fa fB fb fl fp) := F2.out.below N3.out
  clear F2
  obtain ⟨rd0, rd1, _⟩ := Box2.cells D3.out.b
  rw [hW3] at rd0 rd1
  go_wp2_with fail
  rw [← hW3]
  clear rd0 rd1 hW3
  obtain ⟨O, hO⟩ : ∃ O, O = readAO dl dp := ⟨_, rfl⟩
  have FX : Hid (Fits O.ls O.lp) := by rw [hO]; exact readAO_fits FD.out
  obtain ⟨xl, xp, xt, xg, xc⟩ := O
  dsimp only at FX
  have HOX : Hid (readAO dl dp = ⟨xl, xp, xt, xg, xc⟩) := hO.symm
  have K1 : Hid (Calls Tryz.prog 8 #[.agg #[.slice dA dl.length da, .slice dB dp.length db]] W3 fun e w' => ToldA W3 ⟨xl, xp, xt, xg, xc⟩ e w') := by rw [hO]; exact implARead_any A _ _ dl dp W3 D3.out.s D3.out.p FD.out (HSL.out.below B3.out) (GetNum.laid_below HLA.out B3.out)
  clear hO
  refine K1.out.mono ?_
  clear K1
  rintro e w4 ⟨us, up, rfl, ho, hb⟩
  dsimp only at ho
  obtain ⟨xA, xa, xB, xb, rfl, rfl⟩ := ho.shape
  have X4 : Hid (BoxE _ w4.heap.size xA xa xB xb xl xp xt xg xc) := boxE_new xt xg xc ho.strs ho.pends
  have N4 : Hid (Below W3.heap.size W3 (w4.alloc (.cells #[.slice xA xl.length xa, .slice xB xp.length xb, .string xt, .int .i64 xg, .int .i64 xc] 31))) := bA hb _
  obtain ⟨W4, hW4⟩ : ∃ W4, W4 = w4.alloc (.cells #[.slice xA xl.length xa, .slice xB xp.length xb, .string xt, .int .i64 xg, .int .i64 xc] 31) := ⟨_, rfl⟩
  rw [← hW4] at X4 N4
  clear ho hb
  have B4 : Hid (Below w.heap.size w W4) := bT B3.out N4.out
  have D4 : Hid (BoxD W4 w1.heap.size dA da dB db dl dp) := D3.out.below N4.out
  clear D3
  have F4 : Hid (BoxD W4 w2.heap.size fA fa fB fb fl fp) := F3.out.below N4.out
  clear F3
  have R4 : Hid (BoxD W4 w3.heap.size rA ra rB rb rl rp) := R3.out.below N4.out
  clear R3
  obtain ⟨rd0, rd1, _⟩ := Box2.cells D4.out.b
  rw [hW4] at rd0 rd1
  go_wp2_with fail
  rw [← hW4]
  clear rd0 rd1 hW4
  obtain ⟨O, hO⟩ : ∃ O, O = putAO dl dp t 1000 := ⟨_, rfl⟩
  have FY : Hid (Fits O.ls O.lp) := by rw [hO]; exact putAO_fits t 1000 FD.out
  obtain ⟨yl, yp, yt, yg, yc⟩ := O
  dsimp only at FY
  have HOY : Hid (putAO dl dp t 1000 = ⟨yl, yp, yt, yg, yc⟩) := hO.symm
  have K1 : Hid (Calls Tryz.prog 9 #[.agg #[.slice dA dl.length da, .slice dB dp.length db], .string t, .int .i64 1000] W4 fun e w' => ToldA W4 ⟨yl, yp, yt, yg, yc⟩ e w') := by rw [hO]; exact implPut_any A _ _ dl dp t 1000 W4 D4.out.s D4.out.p FD.out (HSL.out.below B4.out) (GetNum.laid_below HLA.out B4.out)
  clear hO
  refine K1.out.mono ?_
  clear K1
  rintro e w5 ⟨us, up, rfl, ho, hb⟩
  dsimp only at ho
  obtain ⟨yA, ya, yB, yb, rfl, rfl⟩ := ho.shape
  have Y5 : Hid (BoxE _ w5.heap.size yA ya yB yb yl yp yt yg yc) := boxE_new yt yg yc ho.strs ho.pends
  have N5 : Hid (Below W4.heap.size W4 (w5.alloc (.cells #[.slice yA yl.length ya, .slice yB yp.length yb, .string yt, .int .i64 yg, .int .i64 yc] 31))) := bA hb _
  obtain ⟨W5, hW5⟩ : ∃ W5, W5 = w5.alloc (.cells #[.slice yA yl.length ya, .slice yB yp.length yb, .string yt, .int .i64 yg, .int .i64 yc] 31) := ⟨_, rfl⟩
  rw [← hW5] at Y5 N5
  clear ho hb
  have B5 : Hid (Below w.heap.size w W5) := bT B4.out N5.out
  have D5 : Hid (BoxD W5 w1.heap.size dA da dB db dl dp) := D4.out.below N5.out
  clear D4
  have F5 : Hid (BoxD W5 w2.heap.size fA fa fB fb fl fp) := F4.out.below N5.out
  clear F4
  have R5 : Hid (BoxD W5 w3.heap.size rA ra rB rb rl rp) := R4.out.below N5.out
  clear R4
  have X5 : Hid (BoxE W5 w4.heap.size xA xa xB xb xl xp xt xg xc) := X4.out.below N5.out
  clear X4
  obtain ⟨rf0, rf1, _⟩ := Box2.cells F5.out.b
  rw [hW5] at rf0 rf1
  go_wp2_with fail
  rw [← hW5]
  clear rf0 rf1 hW5
  obtain ⟨O, hO⟩ : ∃ O, O = formatO fl fp := ⟨_, rfl⟩
  have FZ : Hid (Fits O.ls O.lp) := by rw [hO]; exact formatO_fits FF.out
  obtain ⟨zl, zp, zt, zg, zc⟩ := O
  dsimp only at FZ
  have HOZ : Hid (formatO fl fp = ⟨zl, zp, zt, zg, zc⟩) := hO.symm
  have K1 : Hid (Calls Tryz.prog 10 #[.agg #[.slice fA fl.length fa, .slice fB fp.length fb]] W5 fun e w' => ToldA W5 ⟨zl, zp, zt, zg, zc⟩ e w') := by rw [hO]; exact implFormat_any _ _ fl fp W5 F5.out.s F5.out.p FF.out
  clear hO
  refine K1.out.mono ?_
  clear K1
  rintro e w6 ⟨us, up, rfl, ho, hb⟩
  dsimp only at ho
  obtain ⟨zA, za, zB, zb, rfl, rfl⟩ := ho.shape
  have Z6 : Hid (BoxE _ w6.heap.size zA za zB zb zl zp zt zg zc) := boxE_new zt zg zc ho.strs ho.pends
  have N6 : Hid (Below W5.heap.size W5 (w6.alloc (.cells #[.slice zA zl.length za, .slice zB zp.length zb, .string zt, .int .i64 zg, .int .i64 zc] 31))) := bA hb _
  obtain ⟨W6, hW6⟩ : ∃ W6, W6 = w6.alloc (.cells #[.slice zA zl.length za, .slice zB zp.length zb, .string zt, .int .i64 zg, .int .i64 zc] 31) := ⟨_, rfl⟩
  rw [← hW6] at Z6 N6
  clear ho hb
  have B6 : Hid (Below w.heap.size w W6) := bT B5.out N6.out
  have D6 : Hid (BoxD W6 w1.heap.size dA da dB db dl dp) := D5.out.below N6.out
  clear D5
  have F6 : Hid (BoxD W6 w2.heap.size fA fa fB fb fl fp) := F5.out.below N6.out
  clear F5
  have R6 : Hid (BoxD W6 w3.heap.size rA ra rB rb rl rp) := R5.out.below N6.out
  clear R5
  have X6 : Hid (BoxE W6 w4.heap.size xA xa xB xb xl xp xt xg xc) := X5.out.below N6.out
  clear X5
  have Y6 : Hid (BoxE W6 w5.heap.size yA ya yB yb yl yp yt yg yc) := Y5.out.below N6.out
  clear Y5
  clear N2 N3 N4 N5 N6 B1 B2 B3 B4 B5
  generalize w1.heap.size = g1 at *
  generalize w2.heap.size = g2 at *
  generalize w3.heap.size = g3 at *
  generalize w4.heap.size = g4 at *
  generalize w5.heap.size = g5 at *
  go_wp2_with fail
  rw [← hW6]
  generalize w6.heap.size = g6 at *
  clear hW6
  generalize W6 = V at *
  have KC : Hid (∀ W, Below V.heap.size V W → W.cell? ⟨g1, 0, none⟩ = some (.slice dA dl.length da) ∧ W.cell? ⟨g1, 1, none⟩ = some (.slice dB dp.length db) ∧ W.cell? ⟨g2, 0, none⟩ = some (.slice fA fl.length fa) ∧ W.cell? ⟨g2, 1, none⟩ = some (.slice fB fp.length fb) ∧ W.cell? ⟨g3, 0, none⟩ = some (.slice rA rl.length ra) ∧ W.cell? ⟨g3, 1, none⟩ = some (.slice rB rp.length rb) ∧ W.cell? ⟨g4, 0, none⟩ = some (.slice xA xl.length xa) ∧ W.cell? ⟨g4, 1, none⟩ = some (.slice xB xp.length xb) ∧ W.cell? ⟨g4, 2, none⟩ = some (.string xt) ∧ W.cell? ⟨g4, 3, none⟩ = some (.int .i64 xg) ∧ W.cell? ⟨g4, 4, none⟩ = some (.int .i64 xc) ∧ W.cell? ⟨g5, 0, none⟩ = some (.slice yA yl.length ya) ∧ W.cell? ⟨g5, 1, none⟩ = some (.slice yB yp.length yb) ∧ W.cell? ⟨g5, 2, none⟩ = some (.string yt) ∧ W.cell? ⟨g5, 3, none⟩ = some (.int .i64 yg) ∧ W.cell? ⟨g5, 4, none⟩ = some (.int .i64 yc) ∧ W.cell? ⟨g6, 0, none⟩ = some (.slice zA zl.length za) ∧ W.cell? ⟨g6, 1, none⟩ = some (.slice zB zp.length zb) ∧ W.cell? ⟨g6, 2, none⟩ = some (.string zt) ∧ W.cell? ⟨g6, 3, none⟩ = some (.int .i64 zg) ∧ W.cell? ⟨g6, 4, none⟩ = some (.int .i64 zc)) := fun W hb => area_cells D6.out F6.out R6.out X6.out Y6.out Z6.out hb
  have KX : Hid (∀ W, Below V.heap.size V W → Calls Tryz.prog 12 #[.agg #[.slice dA dl.length da, .slice dB dp.length db]] W fun e w' => ToldA W ⟨xl, xp, xt, xg, xc⟩ e w') := fun W hb => by rw [← HOX.out]; exact specARead_any _ _ dl dp W (D6.out.s.below hb) (D6.out.p.below hb) FD.out
  have KY : Hid (∀ W, Below V.heap.size V W → Calls Tryz.prog 13 #[.agg #[.slice dA dl.length da, .slice dB dp.length db], .string t, .int .i64 1000] W fun e w' => ToldA W ⟨yl, yp, yt, yg, yc⟩ e w') := fun W hb => by rw [← HOY.out]; exact specPut_any _ _ dl dp t 1000 W (D6.out.s.below hb) (D6.out.p.below hb) FD.out (by decide)
  have KZ : Hid (∀ W, Below V.heap.size V W → Calls Tryz.prog 14 #[.agg #[.slice fA fl.length fa, .slice fB fp.length fb]] W fun e w' => ToldA W ⟨zl, zp, zt, zg, zc⟩ e w') := fun W hb => by rw [← HOZ.out]; exact specFormat_any _ _ fl fp W (F6.out.s.below hb) (F6.out.p.below hb) FF.out
  obtain ⟨O, hO⟩ : ∃ O, O = putAO dl dp t st := ⟨_, rfl⟩
  have FS : Hid (Fits O.ls O.lp) := by rw [hO]; exact putAO_fits t st FD.out
  obtain ⟨sl, sp, stt, sg, sc⟩ := O
  dsimp only at FS
  have KS : Hid (∀ W, Below V.heap.size V W → Calls Tryz.prog 13 #[.agg #[.slice dA dl.length da, .slice dB dp.length db], .string t, .int .i64 st] W fun e w' => ToldA W ⟨sl, sp, stt, sg, sc⟩ e w') := fun W hb => by rw [hO]; exact specPut_any _ _ dl dp t st W (D6.out.s.below hb) (D6.out.p.below hb) FD.out (WalkArith.wf_i64 (by omega))
  have KI : Hid (∀ W, Below V.heap.size V W → Calls Tryz.prog 9 #[.agg #[.slice dA dl.length da, .slice dB dp.length db], .string t, .int .i64 st] W fun e w' => ToldA W ⟨sl, sp, stt, sg, sc⟩ e w') := fun W hb => by rw [hO]; exact implPut_any A _ _ dl dp t st W (D6.out.s.below hb) (D6.out.p.below hb) FD.out (HSL.out.below (bT B6.out hb)) (GetNum.laid_below HLA.out (bT B6.out hb))
  clear hO
  obtain ⟨O, hO⟩ : ∃ O, O = readAO rl rp := ⟨_, rfl⟩
  have FQ : Hid (Fits O.ls O.lp) := by rw [hO]; exact readAO_fits FR.out
  obtain ⟨ql, qp, qt, qg, qc⟩ := O
  dsimp only at FQ
  have KR : Hid (∀ W, Below V.heap.size V W → Calls Tryz.prog 12 #[.agg #[.slice rA rl.length ra, .slice rB rp.length rb]] W fun e w' => ToldA W ⟨ql, qp, qt, qg, qc⟩ e w') := fun W hb => by rw [hO]; exact specARead_any _ _ rl rp W (R6.out.s.below hb) (R6.out.p.below hb) FR.out
  have KQ : Hid (∀ W, Below V.heap.size V W → Calls Tryz.prog 8 #[.agg #[.slice rA rl.length ra, .slice rB rp.length rb]] W fun e w' => ToldA W ⟨ql, qp, qt, qg, qc⟩ e w') := fun W hb => by rw [hO]; exact implARead_any A _ _ rl rp W (R6.out.s.below hb) (R6.out.p.below hb) FR.out (HSL.out.below (bT B6.out hb)) (GetNum.laid_below HLA.out (bT B6.out hb))
  clear hO
  have KG : Hid (∀ W, Below V.heap.size V W → Calls Tryz.prog 15 #[.agg #[.slice dA dl.length da, .slice dB dp.length db]] W fun e w' => e = .returned (.int .i64 (roomN dl dp : Nat)) ∧ Below W.heap.size W w') := fun W hb => implRoom_any _ _ dl dp W (D6.out.s.below hb) (D6.out.p.below hb) FD.out
  have KH : Hid (∀ W, Below V.heap.size V W → Calls Tryz.prog 16 #[.agg #[.slice dA dl.length da, .slice dB dp.length db]] W fun e w' => e = .returned (.int .i64 (roomN dl dp : Nat)) ∧ Below W.heap.size W w') := fun W hb => specRoom_any _ _ dl dp W (D6.out.s.below hb) (D6.out.p.below hb) FD.out
  have hrm := room_le dl dp
  have HPF : Hid (xc = 0 → roomN dl dp < t.size → yc = 9) := fun h1 h2 => by
    have h := put_full (ls := dl) (lp := dp) (s := t) (x := 1000) (by rw [HOX.out]; exact h1) (by omega) h2
    rw [HOY.out] at h
    exact h
  obtain ⟨rm, hrmE⟩ : ∃ rm, rm = roomN dl dp := ⟨_, rfl⟩
  rw [← hrmE] at hrm KG KH HPF
  clear hrmE
  have kS := KC.out _ (Below.refl _ _)
  go_region_held3 (fun w' => w'.cell? ⟨g1, 0, none⟩ = some (.slice dA dl.length da) ∧ w'.cell? ⟨g1, 1, none⟩ = some (.slice dB dp.length db) ∧ w'.cell? ⟨g2, 0, none⟩ = some (.slice fA fl.length fa) ∧ w'.cell? ⟨g2, 1, none⟩ = some (.slice fB fp.length fb) ∧ w'.cell? ⟨g3, 0, none⟩ = some (.slice rA rl.length ra) ∧ w'.cell? ⟨g3, 1, none⟩ = some (.slice rB rp.length rb) ∧ w'.cell? ⟨g4, 0, none⟩ = some (.slice xA xl.length xa) ∧ w'.cell? ⟨g4, 1, none⟩ = some (.slice xB xp.length xb) ∧ w'.cell? ⟨g4, 2, none⟩ = some (.string xt) ∧ w'.cell? ⟨g4, 3, none⟩ = some (.int .i64 xg) ∧ w'.cell? ⟨g4, 4, none⟩ = some (.int .i64 xc) ∧ w'.cell? ⟨g5, 0, none⟩ = some (.slice yA yl.length ya) ∧ w'.cell? ⟨g5, 1, none⟩ = some (.slice yB yp.length yb) ∧ w'.cell? ⟨g5, 2, none⟩ = some (.string yt) ∧ w'.cell? ⟨g5, 3, none⟩ = some (.int .i64 yg) ∧ w'.cell? ⟨g5, 4, none⟩ = some (.int .i64 yc) ∧ w'.cell? ⟨g6, 0, none⟩ = some (.slice zA zl.length za) ∧ w'.cell? ⟨g6, 1, none⟩ = some (.slice zB zp.length zb) ∧ w'.cell? ⟨g6, 2, none⟩ = some (.string zt) ∧ w'.cell? ⟨g6, 3, none⟩ = some (.int .i64 zg) ∧ w'.cell? ⟨g6, 4, none⟩ = some (.int .i64 zc))
    (first | exact kS)
    (first
      | (go_at_call_of 12 (Value.slice dA dl.length da); refine (KX.out _ (by repeat' (first | with_reducible exact Below.refl _ _ | with_reducible apply bD | with_reducible apply bA))).mono ?_; rintro e u1 ⟨us, up, rfl, ho, hb⟩; dsimp only at ho; obtain ⟨m1A, m1a, m1B, m1b, rfl, rfl⟩ := ho.shape; have Qm1 : Hid (Own u1 _ _ (.slice m1A xl.length m1a) (.slice m1B xp.length m1b) xl xp) := ho; have Mm1 : Hid _ := hb; clear ho; have N1 : Hid (Below V.heap.size V u1) := bT (by repeat' (first | with_reducible exact Below.refl _ _ | with_reducible apply bD | with_reducible apply bA)) hb; clear kS; have kS := KC.out _ N1.out; clear hb)
      | (go_at_call_of 11 (Value.slice xA xl.length xa); refine (lwArea_any _ _ _ _ xl xp xt xg xc _ (by refine Strs.below (X6.out.s) ?_; repeat' (first | with_reducible exact N1.out | with_reducible apply bD | with_reducible apply bA)) (by refine Pends.below (X6.out.p) ?_; repeat' (first | with_reducible exact N1.out | with_reducible apply bD | with_reducible apply bA)) (by refine Strs.below (Own.strs Qm1.out) ?_; repeat' (first | with_reducible exact Below.refl _ _ | with_reducible apply bD | with_reducible apply bA)) (by refine Pends.below (Own.pends Qm1.out) ?_; repeat' (first | with_reducible exact Below.refl _ _ | with_reducible apply bD | with_reducible apply bA)) FX.out.n FX.out.m).mono ?_; rintro e u2 ⟨rfl, hb⟩; clear Qm1 Mm1; have N2 : Hid (Below V.heap.size V u2) := bT (by repeat' (first | with_reducible exact N1.out | with_reducible apply bD | with_reducible apply bA)) hb; clear kS; have kS := KC.out _ N2.out; clear hb)
      | (go_at_call_of 13 (Value.int .i64 1000); refine (KY.out _ (by repeat' (first | with_reducible exact N2.out | with_reducible apply bD | with_reducible apply bA))).mono ?_; rintro e u3 ⟨us, up, rfl, ho, hb⟩; dsimp only at ho; obtain ⟨m3A, m3a, m3B, m3b, rfl, rfl⟩ := ho.shape; have Qm3 : Hid (Own u3 _ _ (.slice m3A yl.length m3a) (.slice m3B yp.length m3b) yl yp) := ho; have Mm3 : Hid _ := hb; clear ho; have N3 : Hid (Below V.heap.size V u3) := bT (by repeat' (first | with_reducible exact N2.out | with_reducible apply bD | with_reducible apply bA)) hb; clear kS; have kS := KC.out _ N3.out; clear hb)
      | (go_at_call_of 11 (Value.slice yA yl.length ya); refine (lwArea_any _ _ _ _ yl yp yt yg yc _ (by refine Strs.below (Y6.out.s) ?_; repeat' (first | with_reducible exact N3.out | with_reducible apply bD | with_reducible apply bA)) (by refine Pends.below (Y6.out.p) ?_; repeat' (first | with_reducible exact N3.out | with_reducible apply bD | with_reducible apply bA)) (by refine Strs.below (Own.strs Qm3.out) ?_; repeat' (first | with_reducible exact Below.refl _ _ | with_reducible apply bD | with_reducible apply bA)) (by refine Pends.below (Own.pends Qm3.out) ?_; repeat' (first | with_reducible exact Below.refl _ _ | with_reducible apply bD | with_reducible apply bA)) FY.out.n FY.out.m).mono ?_; rintro e u4 ⟨rfl, hb⟩; clear Qm3 Mm3; have N4 : Hid (Below V.heap.size V u4) := bT (by repeat' (first | with_reducible exact N3.out | with_reducible apply bD | with_reducible apply bA)) hb; clear kS; have kS := KC.out _ N4.out; clear hb)
      | (go_at_call 9; refine (KI.out _ (by repeat' (first | with_reducible exact N4.out | with_reducible apply bD | with_reducible apply bA))).mono ?_; rintro e u5 ⟨us, up, rfl, ho, hb⟩; dsimp only at ho; obtain ⟨m5A, m5a, m5B, m5b, rfl, rfl⟩ := ho.shape; have Qm5 : Hid (Own u5 _ _ (.slice m5A sl.length m5a) (.slice m5B sp.length m5b) sl sp) := ho; have Mm5 : Hid _ := hb; clear ho; have N5 : Hid (Below V.heap.size V u5) := bT (by repeat' (first | with_reducible exact N4.out | with_reducible apply bD | with_reducible apply bA)) hb; clear kS; have kS := KC.out _ N5.out; clear hb)
      | (go_at_call_of 13 (Value.int .i64 st); refine (KS.out _ (by repeat' (first | with_reducible exact N5.out | with_reducible apply bD | with_reducible apply bA))).mono ?_; rintro e u6 ⟨us, up, rfl, ho, hb⟩; dsimp only at ho; obtain ⟨m6A, m6a, m6B, m6b, rfl, rfl⟩ := ho.shape; have Qm6 : Hid (Own u6 _ _ (.slice m6A sl.length m6a) (.slice m6B sp.length m6b) sl sp) := ho; have Mm6 : Hid _ := hb; clear ho; have N6 : Hid (Below V.heap.size V u6) := bT (by repeat' (first | with_reducible exact N5.out | with_reducible apply bD | with_reducible apply bA)) hb; clear kS; have kS := KC.out _ N6.out; clear hb)
      | (go_at_call_of 11 (Value.slice m5A sl.length m5a); refine (lwArea_any _ _ _ _ sl sp stt sg sc _ (by refine Strs.below (Strs.below (Own.strs Qm5.out) (bT (by repeat' (first | with_reducible exact Below.refl _ _ | with_reducible apply bD | with_reducible apply bA)) Mm6.out)) ?_; repeat' (first | with_reducible exact Below.refl _ _ | with_reducible apply bD | with_reducible apply bA)) (by refine Pends.below (Pends.below (Own.pends Qm5.out) (bT (by repeat' (first | with_reducible exact Below.refl _ _ | with_reducible apply bD | with_reducible apply bA)) Mm6.out)) ?_; repeat' (first | with_reducible exact Below.refl _ _ | with_reducible apply bD | with_reducible apply bA)) (by refine Strs.below (Own.strs Qm6.out) ?_; repeat' (first | with_reducible exact Below.refl _ _ | with_reducible apply bD | with_reducible apply bA)) (by refine Pends.below (Own.pends Qm6.out) ?_; repeat' (first | with_reducible exact Below.refl _ _ | with_reducible apply bD | with_reducible apply bA)) FS.out.n FS.out.m).mono ?_; rintro e u7 ⟨rfl, hb⟩; clear Qm5 Mm5 Qm6 Mm6; have N7 : Hid (Below V.heap.size V u7) := bT (by repeat' (first | with_reducible exact N6.out | with_reducible apply bD | with_reducible apply bA)) hb; clear kS; have kS := KC.out _ N7.out; clear hb)
      | (go_at_call 14; refine (KZ.out _ (by repeat' (first | with_reducible exact N7.out | with_reducible apply bD | with_reducible apply bA))).mono ?_; rintro e u8 ⟨us, up, rfl, ho, hb⟩; dsimp only at ho; obtain ⟨m8A, m8a, m8B, m8b, rfl, rfl⟩ := ho.shape; have Qm8 : Hid (Own u8 _ _ (.slice m8A zl.length m8a) (.slice m8B zp.length m8b) zl zp) := ho; have Mm8 : Hid _ := hb; clear ho; have N8 : Hid (Below V.heap.size V u8) := bT (by repeat' (first | with_reducible exact N7.out | with_reducible apply bD | with_reducible apply bA)) hb; clear kS; have kS := KC.out _ N8.out; clear hb)
      | (go_at_call_of 11 (Value.slice zA zl.length za); refine (lwArea_any _ _ _ _ zl zp zt zg zc _ (by refine Strs.below (Z6.out.s) ?_; repeat' (first | with_reducible exact N8.out | with_reducible apply bD | with_reducible apply bA)) (by refine Pends.below (Z6.out.p) ?_; repeat' (first | with_reducible exact N8.out | with_reducible apply bD | with_reducible apply bA)) (by refine Strs.below (Own.strs Qm8.out) ?_; repeat' (first | with_reducible exact Below.refl _ _ | with_reducible apply bD | with_reducible apply bA)) (by refine Pends.below (Own.pends Qm8.out) ?_; repeat' (first | with_reducible exact Below.refl _ _ | with_reducible apply bD | with_reducible apply bA)) FZ.out.n FZ.out.m).mono ?_; rintro e u9 ⟨rfl, hb⟩; clear Qm8 Mm8; have N9 : Hid (Below V.heap.size V u9) := bT (by repeat' (first | with_reducible exact N8.out | with_reducible apply bD | with_reducible apply bA)) hb; clear kS; have kS := KC.out _ N9.out; clear hb)
      | (go_at_call_of 8 (Value.slice rA rl.length ra); refine (KQ.out _ (by repeat' (first | with_reducible exact N9.out | with_reducible apply bD | with_reducible apply bA))).mono ?_; rintro e u10 ⟨us, up, rfl, ho, hb⟩; dsimp only at ho; obtain ⟨maA, maa, maB, mab, rfl, rfl⟩ := ho.shape; have Qma : Hid (Own u10 _ _ (.slice maA ql.length maa) (.slice maB qp.length mab) ql qp) := ho; have Mma : Hid _ := hb; clear ho; have N10 : Hid (Below V.heap.size V u10) := bT (by repeat' (first | with_reducible exact N9.out | with_reducible apply bD | with_reducible apply bA)) hb; clear kS; have kS := KC.out _ N10.out; clear hb)
      | (go_at_call_of 12 (Value.slice rA rl.length ra); refine (KR.out _ (by repeat' (first | with_reducible exact N10.out | with_reducible apply bD | with_reducible apply bA))).mono ?_; rintro e u11 ⟨us, up, rfl, ho, hb⟩; dsimp only at ho; obtain ⟨mbA, mba, mbB, mbb, rfl, rfl⟩ := ho.shape; have Qmb : Hid (Own u11 _ _ (.slice mbA ql.length mba) (.slice mbB qp.length mbb) ql qp) := ho; have Mmb : Hid _ := hb; clear ho; have N11 : Hid (Below V.heap.size V u11) := bT (by repeat' (first | with_reducible exact N10.out | with_reducible apply bD | with_reducible apply bA)) hb; clear kS; have kS := KC.out _ N11.out; clear hb)
      | (go_at_call_of 11 (Value.slice maA ql.length maa); refine (lwArea_any _ _ _ _ ql qp qt qg qc _ (by refine Strs.below (Strs.below (Own.strs Qma.out) (bT (by repeat' (first | with_reducible exact Below.refl _ _ | with_reducible apply bD | with_reducible apply bA)) Mmb.out)) ?_; repeat' (first | with_reducible exact Below.refl _ _ | with_reducible apply bD | with_reducible apply bA)) (by refine Pends.below (Pends.below (Own.pends Qma.out) (bT (by repeat' (first | with_reducible exact Below.refl _ _ | with_reducible apply bD | with_reducible apply bA)) Mmb.out)) ?_; repeat' (first | with_reducible exact Below.refl _ _ | with_reducible apply bD | with_reducible apply bA)) (by refine Strs.below (Own.strs Qmb.out) ?_; repeat' (first | with_reducible exact Below.refl _ _ | with_reducible apply bD | with_reducible apply bA)) (by refine Pends.below (Own.pends Qmb.out) ?_; repeat' (first | with_reducible exact Below.refl _ _ | with_reducible apply bD | with_reducible apply bA)) FQ.out.n FQ.out.m).mono ?_; rintro e u12 ⟨rfl, hb⟩; clear Qma Mma Qmb Mmb; have N12 : Hid (Below V.heap.size V u12) := bT (by repeat' (first | with_reducible exact N11.out | with_reducible apply bD | with_reducible apply bA)) hb; clear kS; have kS := KC.out _ N12.out; clear hb)
      | (go_at_call 15; refine (KG.out _ (by repeat' (first | with_reducible exact N12.out | with_reducible apply bD | with_reducible apply bA))).mono ?_; rintro e u13 ⟨rfl, hb⟩; have N13 : Hid (Below V.heap.size V u13) := bT (by repeat' (first | with_reducible exact N12.out | with_reducible apply bD | with_reducible apply bA)) hb; clear kS; have kS := KC.out _ N13.out; clear hb)
      | (go_at_call 16; refine (KH.out _ (by repeat' (first | with_reducible exact N13.out | with_reducible apply bD | with_reducible apply bA))).mono ?_; rintro e u14 ⟨rfl, hb⟩; have N14 : Hid (Below V.heap.size V u14) := bT (by repeat' (first | with_reducible exact N13.out | with_reducible apply bD | with_reducible apply bA)) hb; clear kS; have kS := KC.out _ N14.out; clear hb))
  clear KX KY KZ KS KI KR KQ KH
  clear N1 N2 N3 N4 N5 N6 N7 N8 N9 N10 N11 N12 N13
  have hfa := fldA
  by_cases hzc : zc = 0
  · have hzb : (zc == 0) = true := by simp [hzc]
    have HZR : Hid _ := format_read (ls := fl) (lp := fp) (by rw [HOZ.out]; exact hzc)
    rw [HOZ.out] at HZR
    dsimp only at HZR
    clear hzc
    have KE : Hid (∀ W, Below V.heap.size V W → Calls Tryz.prog 8 #[.agg #[.slice zA zl.length za, .slice zB zp.length zb]] W fun e w' => ToldA W ⟨zl, zp, ByteArray.empty, 0, 0⟩ e w') := fun W hb => by
      rw [← HZR.out]
      exact implARead_any A _ _ zl zp W (Z6.out.s.below hb) (Z6.out.p.below hb) FZ.out (HSL.out.below (bT B6.out hb)) (GetNum.laid_below HLA.out (bT B6.out hb))
    go_wp2_with fail
    refine (KE.out _ (by repeat' (first | with_reducible exact N14.out | with_reducible apply bD | with_reducible apply bA))).mono ?_
    rintro e u4 ⟨us, up, rfl, ho, hb⟩
    dsimp only at ho
    obtain ⟨eA, ea, eB, eb, rfl, rfl⟩ := ho.shape
    have NU : Hid (Below V.heap.size V u4) := bT (by repeat' (first | with_reducible exact N14.out | with_reducible apply bD | with_reducible apply bA)) hb
    clear ho hb kS
    have kS := KC.out (u4.alloc (.cells #[.slice eA zl.length ea, .slice eB zp.length eb, .string ByteArray.empty, .int .i64 0, .int .i64 0] 31)) (bA NU.out _)
    by_cases hxc : xc = 0
    · have hxb : (xc == 0) = true := by simp [hxc]
      go_wp2_with fail
      refine (KG.out _ (by repeat' (first | with_reducible exact NU.out | with_reducible apply bD | with_reducible apply bA))).mono ?_
      rintro e u5 ⟨rfl, hb⟩
      have NU : Hid (Below V.heap.size V u5) := bT (by repeat' (first | with_reducible exact NU.out | with_reducible apply bD | with_reducible apply bA)) hb
      clear hb kS
      have kS := KC.out _ NU.out
      by_cases hrt : rm < t.size
      · have hrb : ((rm : Int) < (t.size : Int)) := by omega
        have hy9 := HPF.out hxc hrt
        subst hy9
        clear hxc
        go_wp2
        go_ret
        exact ⟨rfl, bT B6.out (by repeat' (first | with_reducible exact NU.out | with_reducible apply bD | with_reducible apply bA))⟩
      · have hrb : ¬ ((rm : Int) < (t.size : Int)) := by omega
        clear hxc
        by_cases hyc : yc = 0
        · have hyb : (yc != 0) = false := by simp [hyc]
          have HPA : Hid _ := put_again (ls := dl) (lp := dp) (s := t) (by rw [HOY.out]; exact hyc)
          rw [HOY.out, HOX.out] at HPA
          dsimp only at HPA
          clear hyc
          have hxg0 := HPA.out.2.1
          have hxg1 := HPA.out.2.2
          have hwr : IntKind.i64.wrap (xg + 1) = xg + 1 := IntWalk.i64_in _ ⟨by omega, by omega⟩
          have KA : Hid (∀ W, Below V.heap.size V W → Calls Tryz.prog 8 #[.agg #[.slice yA yl.length ya, .slice yB yp.length yb]] W fun e w' => ToldA W ⟨yl, yp, t, xg + 1, 0⟩ e w') := fun W hb => by
            rw [← HPA.out.1]
            exact implARead_any A _ _ yl yp W (Y6.out.s.below hb) (Y6.out.p.below hb) FY.out (HSL.out.below (bT B6.out hb)) (GetNum.laid_below HLA.out (bT B6.out hb))
          have htt : (t == t) = true := beqB t
          go_wp2_with fail
          refine (KA.out _ (by repeat' (first | with_reducible exact NU.out | with_reducible apply bD | with_reducible apply bA))).mono ?_
          rintro e u6 ⟨us, up, rfl, ho, hb⟩
          dsimp only at ho
          obtain ⟨aA, aa, aB, ab, rfl, rfl⟩ := ho.shape
          have NU : Hid (Below V.heap.size V u6) := bT (by repeat' (first | with_reducible exact NU.out | with_reducible apply bD | with_reducible apply bA)) hb
          clear ho hb kS
          have kS := KC.out (u6.alloc (.cells #[.slice aA yl.length aa, .slice aB yp.length ab, .string t, .int .i64 (xg + 1), .int .i64 0] 31)) (bA NU.out _)
          go_wp2
          go_ret
          exact ⟨rfl, bT B6.out (by repeat' (first | with_reducible exact NU.out | with_reducible apply bD | with_reducible apply bA))⟩
        · have hyb : (yc != 0) = true := by simp [hyc]
          clear hyc
          go_wp2
          go_ret
          exact ⟨rfl, bT B6.out (by repeat' (first | with_reducible exact NU.out | with_reducible apply bD | with_reducible apply bA))⟩
    · have hxb : (xc == 0) = false := by simp [hxc]
      clear hxc
      by_cases hyc : yc = 0
      · have hyb : (yc != 0) = false := by simp [hyc]
        have HPA : Hid _ := put_again (ls := dl) (lp := dp) (s := t) (by rw [HOY.out]; exact hyc)
        rw [HOY.out, HOX.out] at HPA
        dsimp only at HPA
        clear hyc
        have hxg0 := HPA.out.2.1
        have hxg1 := HPA.out.2.2
        have hwr : IntKind.i64.wrap (xg + 1) = xg + 1 := IntWalk.i64_in _ ⟨by omega, by omega⟩
        have KA : Hid (∀ W, Below V.heap.size V W → Calls Tryz.prog 8 #[.agg #[.slice yA yl.length ya, .slice yB yp.length yb]] W fun e w' => ToldA W ⟨yl, yp, t, xg + 1, 0⟩ e w') := fun W hb => by
          rw [← HPA.out.1]
          exact implARead_any A _ _ yl yp W (Y6.out.s.below hb) (Y6.out.p.below hb) FY.out (HSL.out.below (bT B6.out hb)) (GetNum.laid_below HLA.out (bT B6.out hb))
        have htt : (t == t) = true := beqB t
        go_wp2_with fail
        refine (KA.out _ (by repeat' (first | with_reducible exact NU.out | with_reducible apply bD | with_reducible apply bA))).mono ?_
        rintro e u6 ⟨us, up, rfl, ho, hb⟩
        dsimp only at ho
        obtain ⟨aA, aa, aB, ab, rfl, rfl⟩ := ho.shape
        have NU : Hid (Below V.heap.size V u6) := bT (by repeat' (first | with_reducible exact NU.out | with_reducible apply bD | with_reducible apply bA)) hb
        clear ho hb kS
        have kS := KC.out (u6.alloc (.cells #[.slice aA yl.length aa, .slice aB yp.length ab, .string t, .int .i64 (xg + 1), .int .i64 0] 31)) (bA NU.out _)
        go_wp2
        go_ret
        exact ⟨rfl, bT B6.out (by repeat' (first | with_reducible exact NU.out | with_reducible apply bD | with_reducible apply bA))⟩
      · have hyb : (yc != 0) = true := by simp [hyc]
        clear hyc
        go_wp2
        go_ret
        exact ⟨rfl, bT B6.out (by repeat' (first | with_reducible exact NU.out | with_reducible apply bD | with_reducible apply bA))⟩
  · have hzb : (zc == 0) = false := by simp [hzc]
    clear hzc kS
    have NU := N14
    have kS := KC.out _ NU.out
    by_cases hxc : xc = 0
    · have hxb : (xc == 0) = true := by simp [hxc]
      go_wp2_with fail
      refine (KG.out _ (by repeat' (first | with_reducible exact NU.out | with_reducible apply bD | with_reducible apply bA))).mono ?_
      rintro e u5 ⟨rfl, hb⟩
      have NU : Hid (Below V.heap.size V u5) := bT (by repeat' (first | with_reducible exact NU.out | with_reducible apply bD | with_reducible apply bA)) hb
      clear hb kS
      have kS := KC.out _ NU.out
      by_cases hrt : rm < t.size
      · have hrb : ((rm : Int) < (t.size : Int)) := by omega
        have hy9 := HPF.out hxc hrt
        subst hy9
        clear hxc
        go_wp2
        go_ret
        exact ⟨rfl, bT B6.out (by repeat' (first | with_reducible exact NU.out | with_reducible apply bD | with_reducible apply bA))⟩
      · have hrb : ¬ ((rm : Int) < (t.size : Int)) := by omega
        clear hxc
        by_cases hyc : yc = 0
        · have hyb : (yc != 0) = false := by simp [hyc]
          have HPA : Hid _ := put_again (ls := dl) (lp := dp) (s := t) (by rw [HOY.out]; exact hyc)
          rw [HOY.out, HOX.out] at HPA
          dsimp only at HPA
          clear hyc
          have hxg0 := HPA.out.2.1
          have hxg1 := HPA.out.2.2
          have hwr : IntKind.i64.wrap (xg + 1) = xg + 1 := IntWalk.i64_in _ ⟨by omega, by omega⟩
          have KA : Hid (∀ W, Below V.heap.size V W → Calls Tryz.prog 8 #[.agg #[.slice yA yl.length ya, .slice yB yp.length yb]] W fun e w' => ToldA W ⟨yl, yp, t, xg + 1, 0⟩ e w') := fun W hb => by
            rw [← HPA.out.1]
            exact implARead_any A _ _ yl yp W (Y6.out.s.below hb) (Y6.out.p.below hb) FY.out (HSL.out.below (bT B6.out hb)) (GetNum.laid_below HLA.out (bT B6.out hb))
          have htt : (t == t) = true := beqB t
          go_wp2_with fail
          refine (KA.out _ (by repeat' (first | with_reducible exact NU.out | with_reducible apply bD | with_reducible apply bA))).mono ?_
          rintro e u6 ⟨us, up, rfl, ho, hb⟩
          dsimp only at ho
          obtain ⟨aA, aa, aB, ab, rfl, rfl⟩ := ho.shape
          have NU : Hid (Below V.heap.size V u6) := bT (by repeat' (first | with_reducible exact NU.out | with_reducible apply bD | with_reducible apply bA)) hb
          clear ho hb kS
          have kS := KC.out (u6.alloc (.cells #[.slice aA yl.length aa, .slice aB yp.length ab, .string t, .int .i64 (xg + 1), .int .i64 0] 31)) (bA NU.out _)
          go_wp2
          go_ret
          exact ⟨rfl, bT B6.out (by repeat' (first | with_reducible exact NU.out | with_reducible apply bD | with_reducible apply bA))⟩
        · have hyb : (yc != 0) = true := by simp [hyc]
          clear hyc
          go_wp2
          go_ret
          exact ⟨rfl, bT B6.out (by repeat' (first | with_reducible exact NU.out | with_reducible apply bD | with_reducible apply bA))⟩
    · have hxb : (xc == 0) = false := by simp [hxc]
      clear hxc
      by_cases hyc : yc = 0
      · have hyb : (yc != 0) = false := by simp [hyc]
        have HPA : Hid _ := put_again (ls := dl) (lp := dp) (s := t) (by rw [HOY.out]; exact hyc)
        rw [HOY.out, HOX.out] at HPA
        dsimp only at HPA
        clear hyc
        have hxg0 := HPA.out.2.1
        have hxg1 := HPA.out.2.2
        have hwr : IntKind.i64.wrap (xg + 1) = xg + 1 := IntWalk.i64_in _ ⟨by omega, by omega⟩
        have KA : Hid (∀ W, Below V.heap.size V W → Calls Tryz.prog 8 #[.agg #[.slice yA yl.length ya, .slice yB yp.length yb]] W fun e w' => ToldA W ⟨yl, yp, t, xg + 1, 0⟩ e w') := fun W hb => by
          rw [← HPA.out.1]
          exact implARead_any A _ _ yl yp W (Y6.out.s.below hb) (Y6.out.p.below hb) FY.out (HSL.out.below (bT B6.out hb)) (GetNum.laid_below HLA.out (bT B6.out hb))
        have htt : (t == t) = true := beqB t
        go_wp2_with fail
        refine (KA.out _ (by repeat' (first | with_reducible exact NU.out | with_reducible apply bD | with_reducible apply bA))).mono ?_
        rintro e u6 ⟨us, up, rfl, ho, hb⟩
        dsimp only at ho
        obtain ⟨aA, aa, aB, ab, rfl, rfl⟩ := ho.shape
        have NU : Hid (Below V.heap.size V u6) := bT (by repeat' (first | with_reducible exact NU.out | with_reducible apply bD | with_reducible apply bA)) hb
        clear ho hb kS
        have kS := KC.out (u6.alloc (.cells #[.slice aA yl.length aa, .slice aB yp.length ab, .string t, .int .i64 (xg + 1), .int .i64 0] 31)) (bA NU.out _)
        go_wp2
        go_ret
        exact ⟨rfl, bT B6.out (by repeat' (first | with_reducible exact NU.out | with_reducible apply bD | with_reducible apply bA))⟩
      · have hyb : (yc != 0) = true := by simp [hyc]
        clear hyc
        go_wp2
        go_ret
        exact ⟨rfl, bT B6.out (by repeat' (first | with_reducible exact NU.out | with_reducible apply bD | with_reducible apply bA))⟩
end Go.Proofs.YtkigmpeanllimaaGreatDoor.Disk
