/- The promise on disks: the walk. -/
import Derived.Test.YtonmghpmgjfelaaDrawDisks
import Derived.Test.YtonmghpmgjfelaaDrawNew
import Derived.Test.YtonmghpmgjfelaaLwDisks
import Derived.Test.YtonmghpmgjfelaaFnDiskBase
import Derived.Test.YtonmghpmgjfelaaImplWrite
import Derived.Test.YtonmghpmgjfelaaImplCrash
import Derived.Test.YtonmghpmgjfelaaSpecRead
import Derived.Test.YtonmghpmgjfelaaSpecCrash
namespace Go.Proofs.Ytonmghpmgjfelaa.Disk
open Go.RowKit Go.Proofs.Ytonmghpmgjfelaa.Mem Go.Proofs.Ytonmghpmgjfelaa.Harn Go.Proofs.Ytonmghpmgjfelaa.DiskP Go.Proofs.Ytonmghpmgjfelaa.Draw

theorem fldO (a b : Value) (t : ByteArray) (c : Int) (w : World) : (Instr.field 30 (.agg #[a, b, .string t, .int .i64 c]) 1).run Try.prog w = .ok (.string t) w := by kernel_rfl
theorem specRead_at (vs vp : Value) (ls : List ByteArray) (lp : List (Int × ByteArray)) (k : Nat) (q : ByteArray) (w : World) (hr : rightB ls lp = true) (hk : k < ls.length) (hq : readD ls lp k = q) (hs : Strs w vs ls) (hp : Pends w vp lp) :
    Calls Try.prog 19 #[.agg #[vs, vp], .int .i64 (k : Int)] w fun e w' => ∃ us up, e = .returned (outV us up q 0) ∧ Below w.heap.size w w' := by
  have hf := fits_right hr
  have h := specRead_any vs vp ls lp (k : Int) w hs hp hf.n hf.m hf.t hf.y
  rw [readO_ok hr hk, hq] at h
  exact h.mono fun _ _ ⟨us, up, h1, _, h3⟩ => ⟨us, up, h1, h3⟩
theorem implRead_at (vs vp : Value) (ls : List ByteArray) (lp : List (Int × ByteArray)) (k : Nat) (q : ByteArray) (w : World) (hr : rightB ls lp = true) (hk : k < ls.length) (hq : readD ls lp k = q) (hs : Strs w vs ls) (hp : Pends w vp lp) :
    Calls Try.prog 18 #[.agg #[vs, vp], .int .i64 (k : Int)] w fun e w' => ∃ us up, e = .returned (outV us up q 0) ∧ Below w.heap.size w w' := by
  have hf := fits_right hr
  have h := implRead_any vs vp ls lp (k : Int) w hs hp hf.n hf.m hf.t hf.y
  rw [readO_ok hr hk, hq] at h
  exact h.mono fun _ _ ⟨us, up, h1, _, h3⟩ => ⟨us, up, h1, h3⟩
theorem strs_at {W : World} {a : Option Addr} {cap : Nat} {l : List ByteArray} (h : Strs W (.slice a l.length cap) l) (j : Nat) (hj : j < l.length) : ∃ b o, a = some ⟨b, o, none⟩ ∧ W.cell? ⟨b, o + j, none⟩ = some (.string l[j]) := by
  obtain ⟨a', c', hv, hc⟩ := h
  cases hv
  exact hc j hj
theorem pends_at {W : World} {a : Option Addr} {cap : Nat} {l : List (Int × ByteArray)} (h : Pends W (.slice a l.length cap) l) (j : Nat) (hj : j < l.length) : ∃ b o, a = some ⟨b, o, none⟩ ∧ W.cell? ⟨b, o + j * 2, none⟩ = some (.int .i64 l[j].1) ∧ W.cell? ⟨b, o + j * 2 + 1, none⟩ = some (.string l[j].2) := by
  obtain ⟨a', c', hv, hc⟩ := h
  cases hv
  exact hc j hj
theorem crash_some {el cl : List ByteArray} {ep : List (Int × ByteArray)} {kp : List Int} (hr : rightB el ep = true) (hc : cl = flushD el (keptD ep kp)) (k : Nat) (hk : k < el.length) (hk2 : k < cl.length) : someTo el[k] cl[k] k ep ep.length = true := by
  subst hc
  rw [flushD_at el (keptD ep kp) (fun y hy => (((right_iff el ep).1 hr).2.2.2.2 y (keptTo_mem ep kp _ y hy)).1) k hk]
  exact someTo_end el ep kp k hk

set_option maxRecDepth 100000 in
set_option maxHeartbeats 8000000 in
theorem disk_law (a0 : Option Addr) (len0 cap0 : Nat) (z0 : List Int) (a1 : Option Addr) (len1 cap1 : Nat) (z1 : List Int) (w : World) (h0 : IsRow w a0 len0 cap0 z0) (h1 : IsRow w a1 len1 cap1 z1) :
    Calls Try.prog 3 #[.slice a0 len0 cap0, .slice a1 len1 cap1] w fun e w' => e = .returned (.bool true) ∧ Below w.heap.size w w' := by
  have hl0 := row_len h0
  have hl1 := row_len h1
  unfold maxLen at hl0 hl1
  have H0 : Hid (∀ W, Below w.heap.size w W → IsRow W a0 len0 cap0 z0) := fun W hb => Draw.row_below h0 hb
  have H1 : Hid (∀ W, Below w.heap.size w W → IsRow W a1 len1 cap1 z1) := fun W hb => Draw.row_below h1 hb
  clear h0 h1
  by_cases b0 : 1048576 < len0
  · go_enter Try.func3, Try.ntmps3
    go_wp2
    go_ret
    exact ⟨rfl, Below.refl _ _⟩
  by_cases b1 : 1048576 < len1
  · have hd0 : decide (1048576 < (len0 : Int)) = false := decide_eq_false (by omega)
    go_enter Try.func3, Try.ntmps3
    go_wp2
    go_ret
    exact ⟨rfl, Below.refl _ _⟩
  have hd0 : decide (1048576 < (len0 : Int)) = false := decide_eq_false (by omega)
  have hd1 : decide (1048576 < (len1 : Int)) = false := decide_eq_false (by omega)
  go_enter Try.func3, Try.ntmps3
  go_wp2_with fail
  -- d, at, data
  refine (drawWrite_any _ a0 len0 cap0 z0 (H0.out _ (Below.refl _ _))).mono ?_
  rintro e w1 ⟨us, up, dl, dp, x, t, rfl, hg, hx0, hx9, ht⟩
  obtain ⟨dA, da, dB, db, rfl, rfl⟩ := hg.1.shape
  have FD : Hid (Fits dl dp) := hg.2.1.fits
  have D1 : Hid (BoxD _ w1.heap.size dA da dB db dl dp) := boxD_new hg.1.strs hg.1.pends
  have B1 : Hid (Below w.heap.size w (w1.alloc (.cells #[.slice dA dl.length da, .slice dB dp.length db] 26))) := bA hg.2.2 _
  obtain ⟨W1, hW1⟩ : ∃ W1, W1 = w1.alloc (.cells #[.slice dA dl.length da, .slice dB dp.length db] 26) := ⟨_, rfl⟩
  rw [← hW1] at D1 B1
  clear hg
  go_wp2_with fail
  rw [← hW1]
  clear hW1
  -- x
  obtain ⟨O, hO⟩ : ∃ O, O = writeO dl dp x t := ⟨_, rfl⟩
  have HX : Hid (WroteR dl dp x t O) := by rw [hO]; exact writeO_wrote dl dp x t
  obtain ⟨xl, xp, xt, xc⟩ := O
  have HOX : Hid (writeO dl dp x t = ⟨xl, xp, xt, xc⟩) := hO.symm
  have K1 : Hid (Calls Try.prog 5 #[.agg #[.slice dA dl.length da, .slice dB dp.length db], .int .i64 x, .string t] W1 fun e w' => Told W1 ⟨xl, xp, xt, xc⟩ e w') := by rw [hO]; exact implWrite_any _ _ dl dp x t W1 D1.out.s D1.out.p (by omega) FD.out.n FD.out.m FD.out.t FD.out.y
  clear hO
  refine K1.out.mono ?_
  clear K1
  rintro e w2 ⟨us, up, rfl, ho, hb⟩
  dsimp only at ho
  obtain ⟨xA, xa, xB, xb, rfl, rfl⟩ := ho.shape
  have X2 : Hid (BoxT _ w2.heap.size xA xa xB xb xl xp xt xc) := boxT_new xt xc ho.strs ho.pends
  have N12 : Hid (Below W1.heap.size W1 (w2.alloc (.cells #[.slice xA xl.length xa, .slice xB xp.length xb, .string xt, .int .i64 xc] 30))) := bA hb _
  obtain ⟨W2, hW2⟩ : ∃ W2, W2 = w2.alloc (.cells #[.slice xA xl.length xa, .slice xB xp.length xb, .string xt, .int .i64 xc] 30) := ⟨_, rfl⟩
  rw [← hW2] at X2 N12
  have B2 : Hid (Below w.heap.size w W2) := bT B1.out N12.out
  clear ho hb
  go_wp2_with fail
  rw [← hW2]
  clear hW2
  -- e, keep
  refine (drawCrash_any _ a1 len1 cap1 z1 (H1.out _ B2.out)).mono ?_
  rintro e w3 ⟨us, up, el, ep, vk, kp, rfl, hg, hk, hkl⟩
  obtain ⟨eA, ea, eB, eb, rfl, rfl⟩ := hg.1.shape
  have FE : Hid (Fits el ep) := hg.2.1.fits
  have E3 : Hid (BoxD _ w3.heap.size eA ea eB eb el ep) := boxD_new hg.1.strs hg.1.pends
  have I3 : Hid (Ints (w3.alloc (.cells #[.slice eA el.length ea, .slice eB ep.length eb] 26)) vk kp) := hk.below (bself _)
  have N23 : Hid (Below W2.heap.size W2 (w3.alloc (.cells #[.slice eA el.length ea, .slice eB ep.length eb] 26))) := bA hg.2.2 _
  obtain ⟨W3, hW3⟩ : ∃ W3, W3 = w3.alloc (.cells #[.slice eA el.length ea, .slice eB ep.length eb] 26) := ⟨_, rfl⟩
  rw [← hW3] at E3 I3 N23
  have B3 : Hid (Below w.heap.size w W3) := bT B2.out N23.out
  clear hg hk
  go_wp2_with fail
  rw [← hW3]
  clear hW3
  -- c
  obtain ⟨O, hO⟩ : ∃ O, O = crashO el ep kp := ⟨_, rfl⟩
  have FC : Hid (Fits O.1 O.2) := by rw [hO]; exact crashO_fits kp FE.out
  obtain ⟨cl, cp⟩ := O
  have HOC : Hid (crashO el ep kp = (cl, cp)) := hO.symm
  have K1 : Hid (Calls Try.prog 7 #[.agg #[.slice eA el.length ea, .slice eB ep.length eb], vk] W3 fun e w' => ToldD W3 cl cp e w') := by
    have := implCrash_any _ _ vk el ep kp W3 E3.out.s E3.out.p I3.out (by omega) FE.out
    rw [← hO] at this
    exact this
  clear hO
  refine K1.out.mono ?_
  clear K1
  rintro e w4 ⟨us, up, rfl, ho, hb⟩
  obtain ⟨cA, ca, cB, cb, rfl, rfl⟩ := ho.shape
  have C4 : Hid (BoxD _ w4.heap.size cA ca cB cb cl cp) := boxD_new ho.strs ho.pends
  have N34 : Hid (Below W3.heap.size W3 (w4.alloc (.cells #[.slice cA cl.length ca, .slice cB cp.length cb] 26))) := bA hb _
  obtain ⟨W4, hW4⟩ : ∃ W4, W4 = w4.alloc (.cells #[.slice cA cl.length ca, .slice cB cp.length cb] 26) := ⟨_, rfl⟩
  rw [← hW4] at C4 N34
  have E4 : Hid (BoxD W4 w3.heap.size eA ea eB eb el ep) := E3.out.below N34.out
  have B4 : Hid (Below w.heap.size w W4) := bT B3.out N34.out
  clear ho hb
  obtain ⟨e0, e1, _⟩ := Box2.cells E4.out.b
  rw [hW4] at e0 e1
  go_wp2_with fail
  rw [← hW4]
  clear hW4 e0 e1
  -- f
  obtain ⟨O, hO⟩ : ∃ O, O = flushO el ep := ⟨_, rfl⟩
  have HF : Hid (FlushedR el ep O) := by rw [hO]; exact flushO_flushed el ep
  obtain ⟨fl, fp, ft, fc⟩ := O
  have HOF : Hid (flushO el ep = ⟨fl, fp, ft, fc⟩) := hO.symm
  have K1 : Hid (Calls Try.prog 8 #[.agg #[.slice eA el.length ea, .slice eB ep.length eb]] W4 fun e w' => Told W4 ⟨fl, fp, ft, fc⟩ e w') := by rw [hO]; exact implFlush_any _ _ el ep W4 E4.out.s E4.out.p FE.out.n FE.out.m FE.out.t FE.out.y
  clear hO
  refine K1.out.mono ?_
  clear K1
  rintro e w5 ⟨us, up, rfl, ho, hb⟩
  dsimp only at ho
  obtain ⟨fA, fa, fB, fb, rfl, rfl⟩ := ho.shape
  have F5 : Hid (BoxT _ w5.heap.size fA fa fB fb fl fp ft fc) := boxT_new ft fc ho.strs ho.pends
  have N45 : Hid (Below W4.heap.size W4 (w5.alloc (.cells #[.slice fA fl.length fa, .slice fB fp.length fb, .string ft, .int .i64 fc] 30))) := bA hb _
  obtain ⟨W5, hW5⟩ : ∃ W5, W5 = w5.alloc (.cells #[.slice fA fl.length fa, .slice fB fp.length fb, .string ft, .int .i64 fc] 30) := ⟨_, rfl⟩
  rw [← hW5] at F5 N45
  have B5 : Hid (Below w.heap.size w W5) := bT B4.out N45.out
  clear ho hb
  go_wp2_with fail
  rw [← hW5]
  clear hW5
  -- n
  refine (drawNew_any _ a1 len1 cap1 z1 (H1.out _ B5.out)).mono ?_
  rintro e W6 ⟨n, rfl, hn1, hn2, hb⟩
  have N56 : Hid (Below W5.heap.size W5 W6) := hb
  have B6 : Hid (Below w.heap.size w W6) := bT B5.out N56.out
  clear hb
  go_wp2_with fail
  -- g, k
  refine (drawRead_any _ a0 len0 cap0 z0 (H0.out _ B6.out)).mono ?_
  rintro e w7 ⟨us, up, gl, gp, r, rfl, hg, hr⟩
  obtain ⟨gA, ga, gB, gb, rfl, rfl⟩ := hg.1.shape
  have FG : Hid (Fits gl gp) := hg.2.1.fits
  have G7 : Hid (BoxD _ w7.heap.size gA ga gB gb gl gp) := boxD_new hg.1.strs hg.1.pends
  have N67 : Hid (Below W6.heap.size W6 (w7.alloc (.cells #[.slice gA gl.length ga, .slice gB gp.length gb] 26))) := bA hg.2.2 _
  obtain ⟨V, hV⟩ : ∃ V, V = w7.alloc (.cells #[.slice gA gl.length ga, .slice gB gp.length gb] 26) := ⟨_, rfl⟩
  rw [← hV] at G7 N67
  have N57 : Hid (Below W5.heap.size W5 V) := bT N56.out N67.out
  have N47 : Hid (Below W4.heap.size W4 V) := bT N45.out N57.out
  have N37 : Hid (Below W3.heap.size W3 V) := bT N34.out N47.out
  have N27 : Hid (Below W2.heap.size W2 V) := bT N23.out N37.out
  have N17 : Hid (Below W1.heap.size W1 V) := bT N12.out N27.out
  have HV : Hid _ := six_mk (bT B1.out N17.out) (D1.out.below N17.out) (X2.out.below N27.out) (E4.out.below N47.out) (C4.out.below N47.out) (F5.out.below N57.out) G7.out (I3.out.below N37.out)
  clear hg D1 B1 X2 N12 B2 E3 I3 N23 B3 C4 N34 E4 B4 F5 N45 B5 N56 B6 G7 N67 N57 N47 N37 N27 N17
  generalize w1.heap.size = g5 at *
  generalize w2.heap.size = g8 at *
  generalize w3.heap.size = g9 at *
  generalize w4.heap.size = g11 at *
  generalize w5.heap.size = g12 at *
  go_wp2_with fail
  rw [← hV]
  generalize w7.heap.size = g14 at *
  clear hV
  -- all answers are the model's
  have KW : Hid (∀ W, Below V.heap.size V W → Calls Try.prog 12 #[.agg #[.slice dA dl.length da, .slice dB dp.length db], .int .i64 x, .string t] W fun e w' => Told W ⟨xl, xp, xt, xc⟩ e w') := fun W hb => by rw [← HOX.out]; exact specWrite_any _ _ dl dp x t W (HV.out.d.s.below hb) (HV.out.d.p.below hb) (by omega) FD.out.n FD.out.m FD.out.t FD.out.y
  have KC : Hid (∀ W, Below V.heap.size V W → Calls Try.prog 14 #[.agg #[.slice eA el.length ea, .slice eB ep.length eb], vk] W fun e w' => ToldD W cl cp e w') := fun W hb => by
    have h := specCrash_any _ _ vk el ep kp W (HV.out.e.s.below hb) (HV.out.e.p.below hb) (HV.out.k.below hb) (by omega) FE.out
    rw [HOC.out] at h
    exact h
  have KF : Hid (∀ W, Below V.heap.size V W → Calls Try.prog 15 #[.agg #[.slice eA el.length ea, .slice eB ep.length eb]] W fun e w' => Told W ⟨fl, fp, ft, fc⟩ e w') := fun W hb => by rw [← HOF.out]; exact specFlush_any _ _ el ep W (HV.out.e.s.below hb) (HV.out.e.p.below hb) FE.out.n FE.out.m FE.out.t FE.out.y
  obtain ⟨O, hO⟩ : ∃ O, O = readO gl gp r := ⟨_, rfl⟩
  have FR : Hid (Fits O.ls O.lp ∧ (O.c = 0 → rightB O.ls O.lp = true)) := by rw [hO]; exact readO_read r FG.out
  obtain ⟨rl, rp, rt, rc⟩ := O
  have KR : Hid (∀ W, Below V.heap.size V W → Calls Try.prog 18 #[.agg #[.slice gA gl.length ga, .slice gB gp.length gb], .int .i64 r] W fun e w' => Told W ⟨rl, rp, rt, rc⟩ e w') := fun W hb => by rw [hO]; exact implRead_any _ _ gl gp r W (HV.out.g.s.below hb) (HV.out.g.p.below hb) FG.out.n FG.out.m FG.out.t FG.out.y
  have KS : Hid (∀ W, Below V.heap.size V W → Calls Try.prog 19 #[.agg #[.slice gA gl.length ga, .slice gB gp.length gb], .int .i64 r] W fun e w' => Told W ⟨rl, rp, rt, rc⟩ e w') := fun W hb => by rw [hO]; exact specRead_any _ _ gl gp r W (HV.out.g.s.below hb) (HV.out.g.p.below hb) FG.out.n FG.out.m FG.out.t FG.out.y
  clear hO
  have kV := six_cells HV.out (Below.refl _ _)
  go_region_held3 (fun w' => w'.cell? ⟨g5, 0, none⟩ = some (.slice dA dl.length da) ∧ w'.cell? ⟨g5, 1, none⟩ = some (.slice dB dp.length db) ∧ w'.cell? ⟨g8, 0, none⟩ = some (.slice xA xl.length xa) ∧ w'.cell? ⟨g8, 1, none⟩ = some (.slice xB xp.length xb) ∧ w'.cell? ⟨g8, 2, none⟩ = some (.string xt) ∧ w'.cell? ⟨g8, 3, none⟩ = some (.int .i64 xc) ∧ w'.cell? ⟨g9, 0, none⟩ = some (.slice eA el.length ea) ∧ w'.cell? ⟨g9, 1, none⟩ = some (.slice eB ep.length eb) ∧ w'.cell? ⟨g11, 0, none⟩ = some (.slice cA cl.length ca) ∧ w'.cell? ⟨g11, 1, none⟩ = some (.slice cB cp.length cb) ∧ w'.cell? ⟨g12, 0, none⟩ = some (.slice fA fl.length fa) ∧ w'.cell? ⟨g12, 1, none⟩ = some (.slice fB fp.length fb) ∧ w'.cell? ⟨g12, 2, none⟩ = some (.string ft) ∧ w'.cell? ⟨g12, 3, none⟩ = some (.int .i64 fc) ∧ w'.cell? ⟨g14, 0, none⟩ = some (.slice gA gl.length ga) ∧ w'.cell? ⟨g14, 1, none⟩ = some (.slice gB gp.length gb))
    (first | exact kS | exact kV)
    (first
      | (go_at_call 12; refine (KW.out _ (by repeat' (first | exact Below.refl _ _ | apply bD))).mono ?_; rintro e u1 ⟨us, up, rfl, ho, hb⟩; dsimp only at ho; obtain ⟨m1A, m1a, m1B, m1b, rfl, rfl⟩ := ho.shape; have Qm1 : Hid _ := ho; clear ho; have N1 : Hid (Below V.heap.size V u1) := bT (by repeat' (first | exact Below.refl _ _ | apply bD)) hb; have kS := six_cells HV.out N1.out; clear hb)
      | (go_at_call_of 11 (Value.slice xA xl.length xa); refine (lwDisks_any _ _ _ _ xl xp xt xc _ (by refine Strs.below HV.out.x.s ?_; repeat' (first | exact N1.out | apply bD)) (by refine Pends.below HV.out.x.p ?_; repeat' (first | exact N1.out | apply bD)) (by refine Strs.below (Own.strs Qm1.out) ?_; repeat' (first | exact Below.refl _ _ | apply bD)) (by refine Pends.below (Own.pends Qm1.out) ?_; repeat' (first | exact Below.refl _ _ | apply bD)) HX.out.f HX.out.r).mono ?_; rintro e u2 ⟨rfl, hb⟩; clear Qm1; have N2 : Hid (Below V.heap.size V u2) := bT (by repeat' (first | exact N1.out | apply bD)) hb; clear kS; have kS := six_cells HV.out N2.out; clear hb)
      | (go_at_call 14; refine (KC.out _ (by repeat' (first | exact N2.out | apply bD))).mono ?_; rintro e u3 ⟨us, up, rfl, ho, hb⟩; obtain ⟨m3A, m3a, m3B, m3b, rfl, rfl⟩ := ho.shape; have Qm3 : Hid _ := ho; clear ho; have N3 : Hid (Below V.heap.size V u3) := bT (by repeat' (first | exact N2.out | apply bD)) hb; clear kS; have kS := six_cells HV.out N3.out; clear hb)
      | (go_at_call_of 13 (Value.slice cA cl.length ca); refine (lwDisk_any _ _ _ _ cl cp _ (by refine Strs.below HV.out.c.s ?_; repeat' (first | exact N3.out | apply bD)) (by refine Pends.below HV.out.c.p ?_; repeat' (first | exact N3.out | apply bD)) (by refine Strs.below (Own.strs Qm3.out) ?_; repeat' (first | exact Below.refl _ _ | apply bD)) (by refine Pends.below (Own.pends Qm3.out) ?_; repeat' (first | exact Below.refl _ _ | apply bD)) FC.out.n FC.out.m).mono ?_; rintro e u4 ⟨rfl, hb⟩; clear Qm3; have N4 : Hid (Below V.heap.size V u4) := bT (by repeat' (first | exact N3.out | apply bD)) hb; clear kS; have kS := six_cells HV.out N4.out; clear hb)
      | (go_at_call 15; refine (KF.out _ (by repeat' (first | exact N4.out | apply bD))).mono ?_; rintro e u5 ⟨us, up, rfl, ho, hb⟩; dsimp only at ho; obtain ⟨m5A, m5a, m5B, m5b, rfl, rfl⟩ := ho.shape; have Qm5 : Hid _ := ho; clear ho; have N5 : Hid (Below V.heap.size V u5) := bT (by repeat' (first | exact N4.out | apply bD)) hb; clear kS; have kS := six_cells HV.out N5.out; clear hb)
      | (go_at_call_of 11 (Value.slice fA fl.length fa); refine (lwDisks_any _ _ _ _ fl fp ft fc _ (by refine Strs.below HV.out.f.s ?_; repeat' (first | exact N5.out | apply bD)) (by refine Pends.below HV.out.f.p ?_; repeat' (first | exact N5.out | apply bD)) (by refine Strs.below (Own.strs Qm5.out) ?_; repeat' (first | exact Below.refl _ _ | apply bD)) (by refine Pends.below (Own.pends Qm5.out) ?_; repeat' (first | exact Below.refl _ _ | apply bD)) HF.out.f HF.out.r).mono ?_; rintro e u6 ⟨rfl, hb⟩; clear Qm5; have N6 : Hid (Below V.heap.size V u6) := bT (by repeat' (first | exact N5.out | apply bD)) hb; clear kS; have kS := six_cells HV.out N6.out; clear hb)
      | (go_at_call 16; refine (implNew_any n _).mono ?_; rintro e u7 ⟨us, up, rfl, ho, hb⟩; obtain ⟨m7A, m7a, m7B, m7b, rfl, rfl⟩ := ho.shape; have Qm7 : Hid _ := ho; have Mm7 : Hid _ := hb; clear ho; have N7 : Hid (Below V.heap.size V u7) := bT (by repeat' (first | exact N6.out | apply bD)) hb; clear kS; have kS := six_cells HV.out N7.out; clear hb)
      | (go_at_call 17; refine (specNew_any n _).mono ?_; rintro e u8 ⟨us, up, rfl, ho, hb⟩; obtain ⟨m8A, m8a, m8B, m8b, rfl, rfl⟩ := ho.shape; have Qm8 : Hid _ := ho; have Mm8 : Hid _ := hb; clear ho; have N8 : Hid (Below V.heap.size V u8) := bT (by repeat' (first | exact N7.out | apply bD)) hb; clear kS; have kS := six_cells HV.out N8.out; clear hb)
      | (go_at_call_of 13 (Value.slice m7A (newD n).length m7a); refine (lwDisk_any _ _ _ _ (newD n) [] _ (by refine Strs.below (Strs.below (Own.strs Qm7.out) (bT (by repeat' (first | exact Below.refl _ _ | apply bD)) Mm8.out)) ?_; repeat' (first | exact Below.refl _ _ | apply bD)) (by refine Pends.below (Pends.below (Own.pends Qm7.out) (bT (by repeat' (first | exact Below.refl _ _ | apply bD)) Mm8.out)) ?_; repeat' (first | exact Below.refl _ _ | apply bD)) (by refine Strs.below (Own.strs Qm8.out) ?_; repeat' (first | exact Below.refl _ _ | apply bD)) (by refine Pends.below (Own.pends Qm8.out) ?_; repeat' (first | exact Below.refl _ _ | apply bD)) (fits_new n).n (fits_new n).m).mono ?_; rintro e u9 ⟨rfl, hb⟩; clear Qm7 Qm8 Mm7 Mm8; have N9 : Hid (Below V.heap.size V u9) := bT (by repeat' (first | exact N8.out | apply bD)) hb; clear kS; have kS := six_cells HV.out N9.out; clear hb)
      | (go_at_call 18; refine (KR.out _ (by repeat' (first | exact N9.out | apply bD))).mono ?_; rintro e u10 ⟨us, up, rfl, ho, hb⟩; dsimp only at ho; obtain ⟨maA, maa, maB, mab, rfl, rfl⟩ := ho.shape; have Qma : Hid _ := ho; have Mma : Hid _ := hb; clear ho; have N10 : Hid (Below V.heap.size V u10) := bT (by repeat' (first | exact N9.out | apply bD)) hb; clear kS; have kS := six_cells HV.out N10.out; clear hb)
      | (go_at_call 19; refine (KS.out _ (by repeat' (first | exact N10.out | apply bD))).mono ?_; rintro e u11 ⟨us, up, rfl, ho, hb⟩; dsimp only at ho; obtain ⟨mbA, mba, mbB, mbb, rfl, rfl⟩ := ho.shape; have Qmb : Hid _ := ho; have Mmb : Hid _ := hb; clear ho; have N11 : Hid (Below V.heap.size V u11) := bT (by repeat' (first | exact N10.out | apply bD)) hb; clear kS; have kS := six_cells HV.out N11.out; clear hb)
      | (go_at_call_of 11 (Value.slice maA rl.length maa); refine (lwDisks_any _ _ _ _ rl rp rt rc _ (by refine Strs.below (Strs.below (Own.strs Qma.out) (bT (by repeat' (first | exact Below.refl _ _ | apply bD)) Mmb.out)) ?_; repeat' (first | exact Below.refl _ _ | apply bD)) (by refine Pends.below (Pends.below (Own.pends Qma.out) (bT (by repeat' (first | exact Below.refl _ _ | apply bD)) Mmb.out)) ?_; repeat' (first | exact Below.refl _ _ | apply bD)) (by refine Strs.below (Own.strs Qmb.out) ?_; repeat' (first | exact Below.refl _ _ | apply bD)) (by refine Pends.below (Own.pends Qmb.out) ?_; repeat' (first | exact Below.refl _ _ | apply bD)) FR.out.1 FR.out.2).mono ?_; rintro e u12 ⟨rfl, hb⟩; clear Qma Qmb Mma Mmb; have N12 : Hid (Below V.heap.size V u12) := bT (by repeat' (first | exact N11.out | apply bD)) hb; clear kS; have kS := six_cells HV.out N12.out; clear hb)
      | (go_at_call 20; refine (implRight_any _ _ el ep _ (by refine Strs.below HV.out.e.s ?_; repeat' (first | exact N12.out | apply bD)) (by refine Pends.below HV.out.e.p ?_; repeat' (first | exact N12.out | apply bD)) FE.out.n FE.out.m FE.out.t FE.out.y).mono ?_; rintro e u13 ⟨rfl, hb⟩; have N13 : Hid (Below V.heap.size V u13) := bT (by repeat' (first | exact N12.out | apply bD)) hb; clear kS; have kS := six_cells HV.out N13.out; clear hb)
      | (go_at_call 21; refine (specRight_any _ _ el ep _ (by refine Strs.below HV.out.e.s ?_; repeat' (first | exact N13.out | apply bD)) (by refine Pends.below HV.out.e.p ?_; repeat' (first | exact N13.out | apply bD)) FE.out.n FE.out.m FE.out.t FE.out.y).mono ?_; rintro e u14 ⟨rfl, hb⟩; have N14 : Hid (Below V.heap.size V u14) := bT (by repeat' (first | exact N13.out | apply bD)) hb; clear kS; have kS := six_cells HV.out N14.out; clear hb))
  clear KW KC KF KR KS FR kV
  have HU : Hid _ := Six.below HV.out N14.out
  clear HV N1 N2 N3 N4 N5 N6 N7 N8 N9 N10 N11 N12 N13 N14
  have hfo := fldO
  have l1 := FD.out.n
  have l2 := FE.out.n
  have l3 := FE.out.m
  by_cases hxc : xc = 0
  · have hxb : (xc == 0) = true := by simp [hxc]
    have hR : Hid (rightB dl dp = true) := HX.out.d hxc
    have hXr : Hid (rightB xl xp = true) := HX.out.r hxc
    have hXl : Hid (xl = dl ∧ xp = dp ++ [(x, t)]) := HX.out.l hxc
    clear hxc
    go_wp2_with fail
    go_loopw [16] (fun i W => ∃ k : Nat, k ≤ dl.length ∧ i = .int .i64 k ∧ Below u14.heap.size u14 W) (fun i _ => dl.length - (intOf i).toNat)
    case atStart => exact ⟨0, by omega, rfl, by repeat' (first | exact Below.refl _ _ | apply bD)⟩
    case round =>
      obtain ⟨k, hk, rfl, hbW⟩ := hrel
      have HBW : Hid (Below u14.heap.size u14 _) := hbW
      clear hbW kS
      have kS := six_cells HU.out HBW.out
      by_cases hlt : k < dl.length
      · have hlx : k < xl.length := by rw [hXl.out.1]; exact hlt
        have hqx : readD xl xp k = if x = (k : Int) then t else readD dl dp k := by rw [hXl.out.1, hXl.out.2, readD_snoc]
        obtain ⟨q, hq⟩ : ∃ q, readD dl dp k = q := ⟨_, rfl⟩
        rw [hq] at hqx
        have hqq : (q != q) = false := by simp [bne, beqB]
        have htt : (t != t) = false := by simp [bne, beqB]
        have p0 : (k : Int) < (dl.length : Int) := by omega
        have HQ : Hid (readD dl dp k = q) := hq
        clear hq
        by_cases hkx : (k : Int) = x
        · have hkb : ((k : Int) == x) = true := by simp [hkx]
          have HQX : Hid (readD xl xp k = t) := by unfold Hid; rw [hqx, if_pos hkx.symm]
          clear hkx hqx
          go_wp2_with fail
          refine (specRead_at _ _ dl dp k q _ hR.out hlt HQ.out (HU.out.d.s.below HBW.out) (HU.out.d.p.below HBW.out)).mono ?_
          rintro e u ⟨us, up, rfl, hb⟩
          have HBW : Hid (Below u14.heap.size u14 u) := bT HBW.out hb
          clear hb kS
          have kS := six_cells HU.out HBW.out
          go_wp2_with fail
          refine (implRead_at _ _ xl xp k t _ hXr.out hlx HQX.out (HU.out.x.s.below HBW.out) (HU.out.x.p.below HBW.out)).mono ?_
          rintro e u ⟨us, up, rfl, hb⟩
          have HBW : Hid (Below u14.heap.size u14 u) := bT HBW.out hb
          clear hb kS
          go_wp2
          go_roundw
          case rel => exact ⟨k + 1, by omega, by go_num, HBW.out⟩
          case measure => simp [intOf]; omega
        · have hkb : ((k : Int) == x) = false := by simp [hkx]
          have HQX : Hid (readD xl xp k = q) := by unfold Hid; rw [hqx, if_neg (fun e => hkx e.symm)]
          clear hqx
          go_wp2_with fail
          refine (specRead_at _ _ dl dp k q _ hR.out hlt HQ.out (HU.out.d.s.below HBW.out) (HU.out.d.p.below HBW.out)).mono ?_
          rintro e u ⟨us, up, rfl, hb⟩
          have HBW : Hid (Below u14.heap.size u14 u) := bT HBW.out hb
          clear hb kS
          have kS := six_cells HU.out HBW.out
          go_wp2_with fail
          refine (implRead_at _ _ xl xp k q _ hXr.out hlx HQX.out (HU.out.x.s.below HBW.out) (HU.out.x.p.below HBW.out)).mono ?_
          rintro e u ⟨us, up, rfl, hb⟩
          have HBW : Hid (Below u14.heap.size u14 u) := bT HBW.out hb
          clear hb kS
          go_wp2
          go_roundw
          case rel => exact ⟨k + 1, by omega, by go_num, HBW.out⟩
          case measure => simp [intOf]; omega
      · have e : k = dl.length := by omega
        subst e
        by_cases hfc : fc = 0
        · have hfb : (fc != 0) = false := by simp [hfc]
          have hEr : Hid (rightB el ep = true) := HF.out.d hfc
          have hFr : Hid (rightB fl fp = true) := HF.out.r hfc
          have hFl : Hid (fl = flushD el ep ∧ fp = []) := HF.out.l hfc
          have HCL : Hid (cl = flushD el (keptD ep kp) ∧ cp = []) := by
            have h := HOC.out
            rw [crashO_ok (by omega) hEr.out] at h
            exact ⟨(Prod.mk.inj h).1.symm, (Prod.mk.inj h).2.symm⟩
          have KH : Hid (∀ W, Below u14.heap.size u14 W → Calls Try.prog 7 #[.agg #[.slice fA fl.length fa, .slice fB fp.length fb], vk] W fun e w' => ToldD W fl fp e w') := fun W hb => by
            have h := implCrash_any _ _ vk fl fp kp W (HU.out.f.s.below hb) (HU.out.f.p.below hb) (HU.out.k.below hb) (by omega) HF.out.f
            rw [crashO_ok (by omega) hFr.out] at h
            have e1 : flushD fl (keptD fp kp) = fl := by rw [hFl.out.2]; exact flush_none fl kp
            rw [e1] at h
            have e2 : ([] : List (Int × ByteArray)) = fp := hFl.out.2.symm
            rw [e2] at h
            exact h
          clear hfc
          go_wp2_with fail
          refine (KH.out _ (by repeat' (first | exact HBW.out | apply bD))).mono ?_
          rintro e wh ⟨us, up, rfl, ho, hb⟩
          obtain ⟨hA, ha, hB, hc, rfl, rfl⟩ := ho.shape
          have HH : Hid (BoxD _ wh.heap.size hA ha hB hc fl fp) := boxD_new ho.strs ho.pends
          have NU : Hid (Below u14.heap.size u14 (wh.alloc (.cells #[.slice hA fl.length ha, .slice hB fp.length hc] 26))) := bA (bT (by repeat' (first | exact HBW.out | apply bD)) hb) _
          obtain ⟨U2, hU2⟩ : ∃ U2, U2 = wh.alloc (.cells #[.slice hA fl.length ha, .slice hB fp.length hc] 26) := ⟨_, rfl⟩
          rw [← hU2] at HH NU
          have HY : Hid _ := Six.below HU.out NU.out
          clear ho hb KH kS HBW NU HU
          go_wp2_with fail
          rw [← hU2]
          generalize wh.heap.size = gh at *
          clear hU2
          have kC : Hid (∀ W, Below U2.heap.size U2 W → W.cell? ⟨g12, 0, none⟩ = some (.slice fA fl.length fa) ∧ W.cell? ⟨g12, 1, none⟩ = some (.slice fB fp.length fb) ∧ W.cell? ⟨g9, 0, none⟩ = some (.slice eA el.length ea) ∧ W.cell? ⟨g9, 1, none⟩ = some (.slice eB ep.length eb) ∧ W.cell? ⟨g11, 0, none⟩ = some (.slice cA cl.length ca) ∧ W.cell? ⟨g11, 1, none⟩ = some (.slice cB cp.length cb) ∧ W.cell? ⟨gh, 0, none⟩ = some (.slice hA fl.length ha) ∧ W.cell? ⟨gh, 1, none⟩ = some (.slice hB fp.length hc)) := fun W hb => by
            have h := HY.out.below hb
            obtain ⟨a1, a2, _⟩ := h.f.b.cells
            obtain ⟨b1, b2, _⟩ := h.e.b.cells
            obtain ⟨d1, d2, _⟩ := h.c.b.cells
            obtain ⟨f1, f2, _⟩ := (HH.out.below hb).b.cells
            exact ⟨a1, a2, b1, b2, d1, d2, f1, f2⟩
          go_loopw [19] (fun i W => ∃ k : Nat, k ≤ el.length ∧ i = .int .i64 k ∧ Below U2.heap.size U2 W) (fun i _ => el.length - (intOf i).toNat)
          case atStart => exact ⟨0, by omega, rfl, by repeat' (first | exact Below.refl _ _ | apply bD)⟩
          case round =>
            obtain ⟨k, hk, rfl, hbW⟩ := hrel
            have NB : Hid (Below U2.heap.size U2 _) := hbW
            have kQ := kC.out _ NB.out
            clear hbW
            by_cases hlt : k < el.length
            · have hlf : k < fl.length := by rw [hFl.out.1, length_flushD]; exact hlt
              have hlc : k < cl.length := by rw [HCL.out.1, length_flushD]; exact hlt
              have HSE : Hid (someTo el[k] cl[k] k ep ep.length = true) := crash_some hEr.out HCL.out.1 k hlt hlc
              obtain ⟨q, hq⟩ : ∃ q, readD el ep k = q := ⟨_, rfl⟩
              have hqf : readD fl fp k = q := by rw [hFl.out.1, hFl.out.2, read_flushed el ep (fun y hy => (((right_iff el ep).1 hEr.out).2.2.2.2 y hy).1) k hlt]; exact hq
              have KF18 : Hid (∀ W, Below U2.heap.size U2 W → Calls Try.prog 18 #[.agg #[.slice fA fl.length fa, .slice fB fp.length fb], .int .i64 (k : Int)] W fun e w' => ∃ us up, e = .returned (outV us up q 0) ∧ Below W.heap.size W w') := fun W hb => implRead_at _ _ fl fp k q W hFr.out hlf hqf (HY.out.f.s.below hb) (HY.out.f.p.below hb)
              have KH18 : Hid (∀ W, Below U2.heap.size U2 W → Calls Try.prog 18 #[.agg #[.slice hA fl.length ha, .slice hB fp.length hc], .int .i64 (k : Int)] W fun e w' => ∃ us up, e = .returned (outV us up q 0) ∧ Below W.heap.size W w') := fun W hb => implRead_at _ _ fl fp k q W hFr.out hlf hqf (HH.out.s.below hb) (HH.out.p.below hb)
              have KE19 : Hid (∀ W, Below U2.heap.size U2 W → Calls Try.prog 19 #[.agg #[.slice eA el.length ea, .slice eB ep.length eb], .int .i64 (k : Int)] W fun e w' => ∃ us up, e = .returned (outV us up q 0) ∧ Below W.heap.size W w') := fun W hb => specRead_at _ _ el ep k q W hEr.out hlt hq (HY.out.e.s.below hb) (HY.out.e.p.below hb)
              clear hq hqf
              have hqq : (q != q) = false := by simp [bne, beqB]
              have p0 : (k : Int) < (el.length : Int) := by omega
              go_wp2_with fail
              go_region_held3 (fun W => W.cell? ⟨g12, 0, none⟩ = some (.slice fA fl.length fa) ∧ W.cell? ⟨g12, 1, none⟩ = some (.slice fB fp.length fb) ∧ W.cell? ⟨g9, 0, none⟩ = some (.slice eA el.length ea) ∧ W.cell? ⟨g9, 1, none⟩ = some (.slice eB ep.length eb) ∧ W.cell? ⟨g11, 0, none⟩ = some (.slice cA cl.length ca) ∧ W.cell? ⟨g11, 1, none⟩ = some (.slice cB cp.length cb) ∧ W.cell? ⟨gh, 0, none⟩ = some (.slice hA fl.length ha) ∧ W.cell? ⟨gh, 1, none⟩ = some (.slice hB fp.length hc))
                (exact kQ)
                (first
                  | (go_at_call_of 18 (Value.slice fA fl.length fa); refine (KF18.out _ (by repeat' (first | exact NB.out | apply bD))).mono ?_; rintro e u ⟨us, up, rfl, hb⟩; have NB : Hid (Below U2.heap.size U2 u) := bT (by repeat' (first | exact NB.out | apply bD)) hb; clear kQ; have kQ := kC.out _ NB.out; clear hb)
                  | (go_at_call_of 18 (Value.slice hA fl.length ha); refine (KH18.out _ (by repeat' (first | exact NB.out | apply bD))).mono ?_; rintro e u ⟨us, up, rfl, hb⟩; have NB : Hid (Below U2.heap.size U2 u) := bT (by repeat' (first | exact NB.out | apply bD)) hb; clear kQ; have kQ := kC.out _ NB.out; clear hb)
                  | (go_at_call 19; refine (KE19.out _ (by repeat' (first | exact NB.out | apply bD))).mono ?_; rintro e u ⟨us, up, rfl, hb⟩; have NB : Hid (Below U2.heap.size U2 u) := bT (by repeat' (first | exact NB.out | apply bD)) hb; clear kQ; have kQ := kC.out _ NB.out; clear hb))
              clear KF18 KH18 KE19
              obtain ⟨cb1, co1, rfl, c1⟩ := strs_at (HY.out.c.s.below NB.out) k hlc
              obtain ⟨eb1, eo1, rfl, c2⟩ := strs_at (HY.out.e.s.below NB.out) k hlt
              have p1 : (k : Int) < (cl.length : Int) := by omega
              have HST : Hid (∀ m (hm : m < ep.length), someTo el[k] cl[k] k ep (m + 1) = (someTo el[k] cl[k] k ep m || (ep[m].1 == (k : Int) && ep[m].2 == cl[k]))) := fun m hm => someTo_step _ _ k ep m hm
              have HS0 : Hid (someTo el[k] cl[k] k ep 0 = (cl[k] == el[k])) := someTo_start _ _ k ep
              generalize el[k] = s2 at *
              generalize cl[k] = s1 at *
              obtain ⟨bT0, hbT⟩ : ∃ f : Nat → Bool, f = someTo s2 s1 k ep := ⟨_, rfl⟩
              rw [← hbT] at HSE HS0
              have HST2 : Hid (∀ m (hm : m < ep.length), bT0 (m + 1) = (bT0 m || (ep[m].1 == (k : Int) && ep[m].2 == s1))) := by rw [hbT]; exact HST.out
              clear HST hbT
              go_wp2_with fail
              go_quiet (fail)
              go_wp2_with fail
              go_loopw [20, 21] (fun sv j wr => ∃ m : Nat, m ≤ ep.length ∧ j = .int .i64 m ∧ sv = .bool (bT0 m) ∧ ∃ n, wr = u.drewN n) (fun _ j _ => ep.length - (intOf j).toNat)
              case atStart => exact ⟨0, by omega, rfl, by rw [HS0.out, beq_toListBytes], _, rfl⟩
              case round =>
                obtain ⟨m, hm, rfl, rfl, n9, rfl⟩ := hrel
                by_cases hm2 : m < ep.length
                · have HS1 : Hid _ := HST2.out m hm2
                  obtain ⟨pb, po, rfl, d1, d2⟩ := pends_at (HY.out.e.p.below NB.out) m hm2
                  have p3 : (m : Int) < (ep.length : Int) := by omega
                  generalize ep[m].1 = y1 at *
                  generalize ep[m].2 = y2 at *
                  generalize bT0 m = bm at *
                  cases bm
                  · by_cases hy : y1 = (k : Int)
                    · have hyb : (y1 == (k : Int)) = true := by simp [hy]
                      have HYK : Hid (y1 = (k : Int)) := hy
                      clear hy
                      go_wp2_with fail
                      go_quiet (fail)
                      go_wp2
                      go_roundw
                      case rel => exact ⟨m + 1, by omega, by go_num, by rw [HS1.out, hyb, beq_toListBytes]; rfl, _, rfl⟩
                      case measure => simp [intOf]; omega
                    · have hyb : (y1 == (k : Int)) = false := by simp [hy]
                      go_wp2_with fail
                      go_quiet (fail)
                      go_wp2
                      go_roundw
                      case rel => exact ⟨m + 1, by omega, by go_num, by rw [HS1.out, hyb]; rfl, _, rfl⟩
                      case measure => simp [intOf]; omega
                  · go_wp2_with fail
                    go_quiet (fail)
                    go_wp2
                    go_roundw
                    case rel => exact ⟨m + 1, by omega, by go_num, by rw [HS1.out]; rfl, _, rfl⟩
                    case measure => simp [intOf]; omega
                · have e : m = ep.length := by omega
                  subst e
                  have hse := HSE.out
                  go_wp2
                  go_roundw
                  case rel => exact ⟨k + 1, by omega, by go_num, Sha.bel_drewN NB.out _⟩
                  case measure => simp [intOf]; omega
            · have e : k = el.length := by omega
              subst e
              have hcp : ((cp.length : Int) == 0) = true := by rw [HCL.out.2]; rfl
              go_wp2
              go_ret
              exact ⟨rfl, bT HY.out.B NB.out⟩
        · have hfb : (fc != 0) = true := by simp [hfc]
          go_wp2
          go_ret
          exact ⟨rfl, bT HU.out.B (by repeat' (first | exact HBW.out | apply bD))⟩
  · have hxb : (xc == 0) = false := by simp [hxc]
    have HBW : Hid (Below u14.heap.size u14 u14) := Below.refl _ _
    by_cases hfc : fc = 0
    · have hfb : (fc != 0) = false := by simp [hfc]
      have hEr : Hid (rightB el ep = true) := HF.out.d hfc
      have hFr : Hid (rightB fl fp = true) := HF.out.r hfc
      have hFl : Hid (fl = flushD el ep ∧ fp = []) := HF.out.l hfc
      have HCL : Hid (cl = flushD el (keptD ep kp) ∧ cp = []) := by
        have h := HOC.out
        rw [crashO_ok (by omega) hEr.out] at h
        exact ⟨(Prod.mk.inj h).1.symm, (Prod.mk.inj h).2.symm⟩
      have KH : Hid (∀ W, Below u14.heap.size u14 W → Calls Try.prog 7 #[.agg #[.slice fA fl.length fa, .slice fB fp.length fb], vk] W fun e w' => ToldD W fl fp e w') := fun W hb => by
        have h := implCrash_any _ _ vk fl fp kp W (HU.out.f.s.below hb) (HU.out.f.p.below hb) (HU.out.k.below hb) (by omega) HF.out.f
        rw [crashO_ok (by omega) hFr.out] at h
        have e1 : flushD fl (keptD fp kp) = fl := by rw [hFl.out.2]; exact flush_none fl kp
        rw [e1] at h
        have e2 : ([] : List (Int × ByteArray)) = fp := hFl.out.2.symm
        rw [e2] at h
        exact h
      clear hfc
      go_wp2_with fail
      refine (KH.out _ (by repeat' (first | exact HBW.out | apply bD))).mono ?_
      rintro e wh ⟨us, up, rfl, ho, hb⟩
      obtain ⟨hA, ha, hB, hc, rfl, rfl⟩ := ho.shape
      have HH : Hid (BoxD _ wh.heap.size hA ha hB hc fl fp) := boxD_new ho.strs ho.pends
      have NU : Hid (Below u14.heap.size u14 (wh.alloc (.cells #[.slice hA fl.length ha, .slice hB fp.length hc] 26))) := bA (bT (by repeat' (first | exact HBW.out | apply bD)) hb) _
      obtain ⟨U2, hU2⟩ : ∃ U2, U2 = wh.alloc (.cells #[.slice hA fl.length ha, .slice hB fp.length hc] 26) := ⟨_, rfl⟩
      rw [← hU2] at HH NU
      have HY : Hid _ := Six.below HU.out NU.out
      clear ho hb KH kS HBW NU HU
      go_wp2_with fail
      rw [← hU2]
      generalize wh.heap.size = gh at *
      clear hU2
      have kC : Hid (∀ W, Below U2.heap.size U2 W → W.cell? ⟨g12, 0, none⟩ = some (.slice fA fl.length fa) ∧ W.cell? ⟨g12, 1, none⟩ = some (.slice fB fp.length fb) ∧ W.cell? ⟨g9, 0, none⟩ = some (.slice eA el.length ea) ∧ W.cell? ⟨g9, 1, none⟩ = some (.slice eB ep.length eb) ∧ W.cell? ⟨g11, 0, none⟩ = some (.slice cA cl.length ca) ∧ W.cell? ⟨g11, 1, none⟩ = some (.slice cB cp.length cb) ∧ W.cell? ⟨gh, 0, none⟩ = some (.slice hA fl.length ha) ∧ W.cell? ⟨gh, 1, none⟩ = some (.slice hB fp.length hc)) := fun W hb => by
        have h := HY.out.below hb
        obtain ⟨a1, a2, _⟩ := h.f.b.cells
        obtain ⟨b1, b2, _⟩ := h.e.b.cells
        obtain ⟨d1, d2, _⟩ := h.c.b.cells
        obtain ⟨f1, f2, _⟩ := (HH.out.below hb).b.cells
        exact ⟨a1, a2, b1, b2, d1, d2, f1, f2⟩
      go_loopw [19] (fun i W => ∃ k : Nat, k ≤ el.length ∧ i = .int .i64 k ∧ Below U2.heap.size U2 W) (fun i _ => el.length - (intOf i).toNat)
      case atStart => exact ⟨0, by omega, rfl, by repeat' (first | exact Below.refl _ _ | apply bD)⟩
      case round =>
        obtain ⟨k, hk, rfl, hbW⟩ := hrel
        have NB : Hid (Below U2.heap.size U2 _) := hbW
        have kQ := kC.out _ NB.out
        clear hbW
        by_cases hlt : k < el.length
        · have hlf : k < fl.length := by rw [hFl.out.1, length_flushD]; exact hlt
          have hlc : k < cl.length := by rw [HCL.out.1, length_flushD]; exact hlt
          have HSE : Hid (someTo el[k] cl[k] k ep ep.length = true) := crash_some hEr.out HCL.out.1 k hlt hlc
          obtain ⟨q, hq⟩ : ∃ q, readD el ep k = q := ⟨_, rfl⟩
          have hqf : readD fl fp k = q := by rw [hFl.out.1, hFl.out.2, read_flushed el ep (fun y hy => (((right_iff el ep).1 hEr.out).2.2.2.2 y hy).1) k hlt]; exact hq
          have KF18 : Hid (∀ W, Below U2.heap.size U2 W → Calls Try.prog 18 #[.agg #[.slice fA fl.length fa, .slice fB fp.length fb], .int .i64 (k : Int)] W fun e w' => ∃ us up, e = .returned (outV us up q 0) ∧ Below W.heap.size W w') := fun W hb => implRead_at _ _ fl fp k q W hFr.out hlf hqf (HY.out.f.s.below hb) (HY.out.f.p.below hb)
          have KH18 : Hid (∀ W, Below U2.heap.size U2 W → Calls Try.prog 18 #[.agg #[.slice hA fl.length ha, .slice hB fp.length hc], .int .i64 (k : Int)] W fun e w' => ∃ us up, e = .returned (outV us up q 0) ∧ Below W.heap.size W w') := fun W hb => implRead_at _ _ fl fp k q W hFr.out hlf hqf (HH.out.s.below hb) (HH.out.p.below hb)
          have KE19 : Hid (∀ W, Below U2.heap.size U2 W → Calls Try.prog 19 #[.agg #[.slice eA el.length ea, .slice eB ep.length eb], .int .i64 (k : Int)] W fun e w' => ∃ us up, e = .returned (outV us up q 0) ∧ Below W.heap.size W w') := fun W hb => specRead_at _ _ el ep k q W hEr.out hlt hq (HY.out.e.s.below hb) (HY.out.e.p.below hb)
          clear hq hqf
          have hqq : (q != q) = false := by simp [bne, beqB]
          have p0 : (k : Int) < (el.length : Int) := by omega
          go_wp2_with fail
          go_region_held3 (fun W => W.cell? ⟨g12, 0, none⟩ = some (.slice fA fl.length fa) ∧ W.cell? ⟨g12, 1, none⟩ = some (.slice fB fp.length fb) ∧ W.cell? ⟨g9, 0, none⟩ = some (.slice eA el.length ea) ∧ W.cell? ⟨g9, 1, none⟩ = some (.slice eB ep.length eb) ∧ W.cell? ⟨g11, 0, none⟩ = some (.slice cA cl.length ca) ∧ W.cell? ⟨g11, 1, none⟩ = some (.slice cB cp.length cb) ∧ W.cell? ⟨gh, 0, none⟩ = some (.slice hA fl.length ha) ∧ W.cell? ⟨gh, 1, none⟩ = some (.slice hB fp.length hc))
            (exact kQ)
            (first
              | (go_at_call_of 18 (Value.slice fA fl.length fa); refine (KF18.out _ (by repeat' (first | exact NB.out | apply bD))).mono ?_; rintro e u ⟨us, up, rfl, hb⟩; have NB : Hid (Below U2.heap.size U2 u) := bT (by repeat' (first | exact NB.out | apply bD)) hb; clear kQ; have kQ := kC.out _ NB.out; clear hb)
              | (go_at_call_of 18 (Value.slice hA fl.length ha); refine (KH18.out _ (by repeat' (first | exact NB.out | apply bD))).mono ?_; rintro e u ⟨us, up, rfl, hb⟩; have NB : Hid (Below U2.heap.size U2 u) := bT (by repeat' (first | exact NB.out | apply bD)) hb; clear kQ; have kQ := kC.out _ NB.out; clear hb)
              | (go_at_call 19; refine (KE19.out _ (by repeat' (first | exact NB.out | apply bD))).mono ?_; rintro e u ⟨us, up, rfl, hb⟩; have NB : Hid (Below U2.heap.size U2 u) := bT (by repeat' (first | exact NB.out | apply bD)) hb; clear kQ; have kQ := kC.out _ NB.out; clear hb))
          clear KF18 KH18 KE19
          obtain ⟨cb1, co1, rfl, c1⟩ := strs_at (HY.out.c.s.below NB.out) k hlc
          obtain ⟨eb1, eo1, rfl, c2⟩ := strs_at (HY.out.e.s.below NB.out) k hlt
          have p1 : (k : Int) < (cl.length : Int) := by omega
          have HST : Hid (∀ m (hm : m < ep.length), someTo el[k] cl[k] k ep (m + 1) = (someTo el[k] cl[k] k ep m || (ep[m].1 == (k : Int) && ep[m].2 == cl[k]))) := fun m hm => someTo_step _ _ k ep m hm
          have HS0 : Hid (someTo el[k] cl[k] k ep 0 = (cl[k] == el[k])) := someTo_start _ _ k ep
          generalize el[k] = s2 at *
          generalize cl[k] = s1 at *
          obtain ⟨bT0, hbT⟩ : ∃ f : Nat → Bool, f = someTo s2 s1 k ep := ⟨_, rfl⟩
          rw [← hbT] at HSE HS0
          have HST2 : Hid (∀ m (hm : m < ep.length), bT0 (m + 1) = (bT0 m || (ep[m].1 == (k : Int) && ep[m].2 == s1))) := by rw [hbT]; exact HST.out
          clear HST hbT
          go_wp2_with fail
          go_quiet (fail)
          go_wp2_with fail
          go_loopw [20, 21] (fun sv j wr => ∃ m : Nat, m ≤ ep.length ∧ j = .int .i64 m ∧ sv = .bool (bT0 m) ∧ ∃ n, wr = u.drewN n) (fun _ j _ => ep.length - (intOf j).toNat)
          case atStart => exact ⟨0, by omega, rfl, by rw [HS0.out, beq_toListBytes], _, rfl⟩
          case round =>
            obtain ⟨m, hm, rfl, rfl, n9, rfl⟩ := hrel
            by_cases hm2 : m < ep.length
            · have HS1 : Hid _ := HST2.out m hm2
              obtain ⟨pb, po, rfl, d1, d2⟩ := pends_at (HY.out.e.p.below NB.out) m hm2
              have p3 : (m : Int) < (ep.length : Int) := by omega
              generalize ep[m].1 = y1 at *
              generalize ep[m].2 = y2 at *
              generalize bT0 m = bm at *
              cases bm
              · by_cases hy : y1 = (k : Int)
                · have hyb : (y1 == (k : Int)) = true := by simp [hy]
                  have HYK : Hid (y1 = (k : Int)) := hy
                  clear hy
                  go_wp2_with fail
                  go_quiet (fail)
                  go_wp2
                  go_roundw
                  case rel => exact ⟨m + 1, by omega, by go_num, by rw [HS1.out, hyb, beq_toListBytes]; rfl, _, rfl⟩
                  case measure => simp [intOf]; omega
                · have hyb : (y1 == (k : Int)) = false := by simp [hy]
                  go_wp2_with fail
                  go_quiet (fail)
                  go_wp2
                  go_roundw
                  case rel => exact ⟨m + 1, by omega, by go_num, by rw [HS1.out, hyb]; rfl, _, rfl⟩
                  case measure => simp [intOf]; omega
              · go_wp2_with fail
                go_quiet (fail)
                go_wp2
                go_roundw
                case rel => exact ⟨m + 1, by omega, by go_num, by rw [HS1.out]; rfl, _, rfl⟩
                case measure => simp [intOf]; omega
            · have e : m = ep.length := by omega
              subst e
              have hse := HSE.out
              go_wp2
              go_roundw
              case rel => exact ⟨k + 1, by omega, by go_num, Sha.bel_drewN NB.out _⟩
              case measure => simp [intOf]; omega
        · have e : k = el.length := by omega
          subst e
          have hcp : ((cp.length : Int) == 0) = true := by rw [HCL.out.2]; rfl
          go_wp2
          go_ret
          exact ⟨rfl, bT HY.out.B NB.out⟩
    · have hfb : (fc != 0) = true := by simp [hfc]
      go_wp2
      go_ret
      exact ⟨rfl, bT HU.out.B (by repeat' (first | exact HBW.out | apply bD))⟩
end Go.Proofs.Ytonmghpmgjfelaa.Disk
