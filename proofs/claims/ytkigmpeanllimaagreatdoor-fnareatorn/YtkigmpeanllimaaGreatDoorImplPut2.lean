/- The program's AreaPut. -/
import Derived.Test.YtkigmpeanllimaaGreatDoorTextsF
import Derived.Test.YtkigmpeanllimaaGreatDoorImplNext
namespace Go.Proofs.YtkigmpeanllimaaGreatDoor.Disk
open Go.RowKit Go.Proofs.YtkigmpeanllimaaGreatDoor.Mem Go.Proofs.YtkigmpeanllimaaGreatDoor.Harn Go.Proofs.YtkigmpeanllimaaGreatDoor.DiskP Go.Proofs.YtkigmpeanllimaaGreatDoor.Sent

theorem steps_take {W : World} {b o cap : Nat} {l : List Step} (h : Steps W (.slice (some ⟨b, o, none⟩) l.length cap) l) (c : Nat) : Steps W (.slice (some ⟨b, o, none⟩) (l.take c).length cap) (l.take c) := by
  obtain ⟨a, cp, hv, hc⟩ := h
  cases hv
  refine ⟨_, _, rfl, fun j hj => ?_⟩
  have hj2 : j < l.length := by rw [List.length_take] at hj; omega
  obtain ⟨b', o', e, c1, c2, c3⟩ := hc j hj2
  refine ⟨b', o', e, ?_⟩
  rw [List.getElem_take]
  exact ⟨c1, c2, c3⟩
set_option maxRecDepth 100000 in
theorem firstSteps_any (b o cap : Nat) (l : List Step) (x : Int) (w : World) (h : Steps w (.slice (some ⟨b, o, none⟩) l.length cap) l) (hc : l.length ≤ cap) (hl : 1 ≤ l.length) :
    Calls Tryz.prog 34 #[.slice (some ⟨b, o, none⟩) l.length cap, .int .i64 x] w fun e w' => (∃ v, e = .returned v ∧ Steps w v (l.take x.toNat)) ∧ w = w' := by
  have HS : Hid (Steps w (.slice (some ⟨b, o, none⟩) (l.take x.toNat).length cap) (l.take x.toNat)) := steps_take h x.toNat
  obtain ⟨c, hcl⟩ : ∃ c, (l.take x.toNat).length = c := ⟨_, rfl⟩
  rw [hcl] at HS
  have hcx : c = min x.toNat l.length := by rw [← hcl, List.length_take]
  obtain ⟨m, hm⟩ : ∃ m, min x (l.length : Int) = m := ⟨_, rfl⟩
  have hmn : ∀ W, (Builtin.min_ #[2, 2] 2 #[.int .i64 x, .int .i64 (l.length : Int)]).run Tryz.prog W = .ok (.int .i64 m) W := fun W => by
    by_cases hh : (l.length : Int) < x
    · have e : m = (l.length : Int) := by omega
      rw [e]
      simp [Builtin.min_, Builtin.min2]
      try omega
    · have e : m = x := by omega
      rw [e]
      simp [Builtin.min_, Builtin.min2]
      try omega
  have hmx : ∀ W, (Builtin.max_ #[2, 2] 2 #[.int .i64 0, .int .i64 m]).run Tryz.prog W = .ok (.int .i64 (c : Int)) W := fun W => by
    by_cases hh : 0 < m
    · have e : (c : Int) = m := by omega
      rw [e]
      simp [Builtin.max_, Builtin.max2]
      try omega
    · have e : (c : Int) = 0 := by omega
      rw [e]
      simp [Builtin.max_, Builtin.max2]
      try omega
  have hcc : (c : Int) ≤ (cap : Int) := by omega
  have hcn : ¬ cap < c := by omega
  have hc0 : 0 < cap := by omega
  have hc1 : ¬ cap = 0 := by omega
  clear hcl hcx hm h
  generalize l.take x.toNat = lt at *
  go_enter Tryz.func34, Tryz.ntmps34
  go_wp2
  go_ret
  exact ⟨⟨_, rfl, HS.out⟩, rfl⟩

theorem OwnS.shape {W : World} {base : Nat} {v : Value} {l : List Step} (h : OwnS W base v l) (hl : 1 ≤ l.length) : ∃ g cap, v = .slice (some ⟨g, 0, none⟩) l.length cap ∧ base ≤ g ∧ g < W.heap.size ∧ l.length ≤ cap ∧ cap ≤ maxLen := by
  have hlt := World.ownsRow.lt h
  rcases h.2 with ⟨_, h0⟩ | ⟨g, cap, cur, rfl, _, _, h1, h2, _⟩
  · omega
  · exact ⟨g, cap, rfl, (hlt g rfl).1, (hlt g rfl).2, h1, h2⟩

set_option maxRecDepth 100000 in
set_option maxHeartbeats 8000000 in
theorem implPut_any (A : Nat → Addr) (vs vp : Value) (ls : List ByteArray) (lp : List (Int × ByteArray)) (tx : ByteArray) (x : Int) (w : World) (hs : Strs w vs ls) (hp : Pends w vp lp) (hf : Fits ls lp) (hS : SentsLaid w A sentL) (hL : GetNum.Laid w) :
    Calls Tryz.prog 9 #[.agg #[vs, vp], .string tx, .int .i64 x] w fun e w' => ToldA w (putAO ls lp tx x) e w' := by
  obtain ⟨W0, hW0⟩ : ∃ W0, W0 = (w.alloc (.cells #[vs, vp] 26)).alloc (.cells #[.slice none 0 0, .slice none 0 0, .string { data := #[] }, .int .i64 0, .int .i64 0] 31) := ⟨_, rfl⟩
  have HB0 : Hid (Below w.heap.size w W0) := by rw [hW0]; exact bA (bself _) _
  have HZ : Hid (W0.heap.size = w.heap.size + 2) := by rw [hW0]; simp [Hid]
  have HR : Hid (BoxA W0 (w.heap.size + 1) (.slice none 0 0) (.slice none 0 0) ByteArray.empty 0 0) := by rw [hW0]; exact Sha.row_new_at (w.alloc _) [.slice none 0 0, .slice none 0 0, .string ByteArray.empty, .int .i64 0, .int .i64 0] 31 _ (by simp)
  have HX : Hid (Box2 W0 w.heap.size vs vp) := by rw [hW0]; exact Sha.row_alloc (Sha.row_new w [vs, vp] 26) _
  have HS : Hid (Strs W0 vs ls) := hs.below HB0.out
  have HP : Hid (Pends W0 vp lp) := hp.below HB0.out
  have HF : Hid (Fits ls lp) := hf
  have HSL : Hid (SentsLaid W0 A sentL) := hS.below HB0.out
  have HLL : Hid (GetNum.Laid W0) := GetNum.laid_below hL HB0.out
  have hz0 := HZ.out
  clear hs hp hf hS hL
  by_cases hbig : 8000 < tx.size
  · rw [putAO_size hbig]
    have hb2 : (8000 : Int) < (tx.size : Int) := by omega
    clear hW0
    go_enter Tryz.func9, Tryz.ntmps9
    go_wp2_with fail
    exact bodyPost_ret (v := outA (.slice none 0 0) (.slice none 0 0) ByteArray.empty 0 2) (by simp [results, Tryz.results9, go_sem]; rfl) rfl ⟨_, _, rfl, own_zero _ _ _, bA (bself _) _⟩
  have hb2 : ¬ (8000 : Int) < (tx.size : Int) := by omega
  rcases areaR_cases ls lp with ⟨g, s, n, t, hr, hA, hO, hg0, hs1, hn1, hsn⟩ | ⟨g, s, n, t, ge, hA, hO, hge, hc0⟩
  · have KN : Hid (Calls Tryz.prog 29 #[.agg #[vs, vp], .string tx] W0 fun e w' => e = .returned (if 64 * halfN ls < tx.size ∨ 1000000 ≤ g then .tuple #[headV 0 0 0, errV A (some 5)] else .tuple #[headV (g + 1) ((1 - s : Nat) : Int) tx.size, .nilIface]) ∧ Below W0.heap.size W0 w') := nextHead_ok A vs vp ls lp tx g s n t W0 HS.out HP.out HF.out hr HSL.out HLL.out hA hg0 hs1
    by_cases hfull : 64 * halfN ls < tx.size ∨ 1000000 ≤ g
    · rw [putAO_full hbig hO hfull]
      have K2 : Hid (Calls Tryz.prog 29 #[.agg #[vs, vp], .string tx] W0 fun e w' => e = .returned (.tuple #[headV 0 0 0, .iface 157 (.pointer (some (A 5)))]) ∧ Below W0.heap.size W0 w') := by have h := KN.out; rw [if_pos hfull] at h; exact h
      have KA : Hid (∀ W, Below W0.heap.size W0 W → Calls Tryz.prog 27 #[.iface 157 (.pointer (some (A 5)))] W fun e w' => e = .returned (.int .i64 9) ∧ W = w') := fun W hb => areaCode_any A (some 5) W (HSL.out.below hb) (fun k hk => by cases hk; simp [sentL])
      clear KN hA hO hfull hr
      go_enter Tryz.func9, Tryz.ntmps9
      go_wp2_with fail
      rw [← hW0]
      clear hW0
      refine K2.out.mono ?_
      rintro e u ⟨rfl, hb⟩
      obtain ⟨W1, hW1⟩ : ∃ W1, W1 = u.alloc (.cells #[.int .i64 0, .int .i64 0, .int .i64 0] 49) := ⟨_, rfl⟩
      have HB1 : Hid (Below W0.heap.size W0 W1) := by rw [hW1]; exact bA hb _
      have hzu := hb.size
      have hz1 : W1.heap.size = u.heap.size + 1 := by rw [hW1]; simp
      obtain ⟨r0, r1, r2, r3, r4⟩ := BoxA.cells (BoxA.below HR.out HB1.out (by omega))
      have rf := BoxA.frozen (BoxA.below HR.out HB1.out (by omega))
      clear hb
      go_wp2_with fail
      rw [← hW1]
      clear hW1
      refine (KA.out _ HB1.out).mono ?_
      rintro e u2 ⟨rfl, rfl⟩
      go_wp2_with fail
      exact bodyPost_ret (v := outA (.slice none 0 0) (.slice none 0 0) ByteArray.empty 0 9) (by simp [results, Tryz.results9, go_sem, r0, r1, r2, r3, r4]; rfl) rfl (told_set5 (o := illA 9) (own_zero _ w.heap.size w.heap.size) (bT HB0.out HB1.out) (Nat.le_refl _) (by omega) (.inr (by omega)) (by omega))
    · rw [putAO_ok hbig hO hsn hfull]
      have K2 : Hid (Calls Tryz.prog 29 #[.agg #[vs, vp], .string tx] W0 fun e w' => e = .returned (.tuple #[headV (g + 1) ((1 - s : Nat) : Int) tx.size, .nilIface]) ∧ Below W0.heap.size W0 w') := by have h := KN.out; rw [if_neg hfull] at h; exact h
      have hl1 := ((right_iff ls lp).1 hr).1
      have hl64 := ((right_iff ls lp).1 hr).2.1
      have h31 := halfN_le hl64
      have hg1 : g < 1000000 := by omega
      obtain ⟨sd, hsd⟩ : ∃ sd, 1 - s = sd := ⟨_, rfl⟩
      rw [hsd] at K2 ⊢
      have hsd1 : sd ≤ 1 := by omega
      have hfi : firstN ls sd ≤ 64 := by
        unfold firstN
        rcases (show sd = 0 ∨ sd = 1 by omega) with rfl | rfl <;> omega
      have KST : Hid (∀ W, Below W0.heap.size W0 W → Calls Tryz.prog 31 #[.agg #[vs, vp], .int .i64 (sd : Int)] W fun e w' => e = .returned (.int .i64 ((firstN ls sd : Nat) : Int)) ∧ Below W.heap.size W w') := fun W hb => sideStart_any vs vp ls sd W (HS.out.below hb) hl1 hl64 hsd1
      have KT : Hid (∀ W, Calls Tryz.prog 30 #[.string tx, .int .i64 ((firstN ls sd : Nat) : Int)] W fun e w' => ∃ v, e = .returned v ∧ OwnS w' W.heap.size v (textS tx (firstN ls sd)) ∧ Below W.heap.size W w') := fun W => textSteps_any tx (firstN ls sd) W (by omega) hfi
      have KHD : Hid (∀ W, Calls Tryz.prog 32 #[headV (g + 1) (sd : Int) tx.size] W fun e w' => ∃ v, e = .returned v ∧ Steps w' v [(false, 0, headB (g + 1) (sd : Int) tx.size), (true, 0, ByteArray.empty)] ∧ Below W.heap.size W w') := fun W => headSteps_any (g + 1) (sd : Int) tx.size W (by omega) (by omega) (by omega) (by omega) (by omega) (by omega)
      have HAL : Hid (allS tx (firstN ls sd) (g + 1) (sd : Int) = textS tx (firstN ls sd) ++ [(false, 0, headB (g + 1) (sd : Int) tx.size), (true, 0, ByteArray.empty)]) := rfl
      have HLN : Hid ((textS tx (firstN ls sd)).length ≤ 200 ∧ 1 ≤ (textS tx (firstN ls sd)).length) := by unfold Hid; rw [textS_len]; unfold textN; omega
      have HSZ : Hid (∀ y ∈ (allS tx (firstN ls sd) (g + 1) (sd : Int)).take x.toNat, y.2.2.size ≤ 1048576) := fun y hy => allS_sizes _ _ _ _ y (List.mem_of_mem_take hy)
      have KTK : Hid (∀ W v, Below W0.heap.size W0 W → Steps W v ((allS tx (firstN ls sd) (g + 1) (sd : Int)).take x.toNat) → Calls Tryz.prog 33 #[.agg #[vs, vp], v] W fun e w' => ToldA W (runO ls lp ((allS tx (firstN ls sd) (g + 1) (sd : Int)).take x.toNat)) e w') := fun W v hb hv => takeSteps_any vs vp v ls lp _ W (HS.out.below hb) (HP.out.below hb) HF.out hv (by rw [List.length_take, allS_len]; unfold textN; omega) HSZ.out
      clear KN hA hO hfull hr hsn HSZ
      generalize runO ls lp ((allS tx (firstN ls sd) (g + 1) (sd : Int)).take x.toNat) = O at *
      generalize allS tx (firstN ls sd) (g + 1) (sd : Int) = al at *
      generalize textS tx (firstN ls sd) = tl at *
      generalize headB (g + 1) (sd : Int) tx.size = hd at *
      generalize firstN ls sd = fi at *
      go_enter Tryz.func9, Tryz.ntmps9
      go_wp2_with fail
      rw [← hW0]
      clear hW0
      refine K2.out.mono ?_
      rintro e u ⟨rfl, hb⟩
      obtain ⟨W1, hW1⟩ : ∃ W1, W1 = u.alloc (.cells #[.int .i64 (g + 1), .int .i64 (sd : Int), .int .i64 (tx.size : Int)] 49) := ⟨_, rfl⟩
      have HB1 : Hid (Below W0.heap.size W0 W1) := by rw [hW1]; exact bA hb _
      have HY1 : Hid (BoxH W1 u.heap.size (g + 1) sd tx.size) := by rw [hW1]; exact Sha.row_new u [.int .i64 (g + 1), .int .i64 (sd : Int), .int .i64 (tx.size : Int)] 49
      have hzu := hb.size
      have hz1 : W1.heap.size = u.heap.size + 1 := by rw [hW1]; simp
      clear hb
      go_wp2_with fail
      rw [← hW1]
      clear hW1
      have NB : Hid (Below W1.heap.size W1 W1) := Below.refl _ _
      have KC : Hid (∀ W, Below W1.heap.size W1 W → W.cell? ⟨w.heap.size, 0, none⟩ = some vs ∧ W.cell? ⟨w.heap.size, 1, none⟩ = some vp ∧ W.cell? ⟨u.heap.size, 0, none⟩ = some (.int .i64 (g + 1)) ∧ W.cell? ⟨u.heap.size, 1, none⟩ = some (.int .i64 (sd : Int)) ∧ W.cell? ⟨u.heap.size, 2, none⟩ = some (.int .i64 (tx.size : Int))) := fun W hb => by
        have h := Box2.cells (Box2.below HX.out (bT HB1.out hb) (by omega))
        have h2 := BoxH.cells (BoxH.below HY1.out hb (by omega))
        exact ⟨h.1, h.2.1, h2.1, h2.2.1, h2.2.2.1⟩
      go_region_held3 (fun W => W.cell? ⟨w.heap.size, 0, none⟩ = some vs ∧ W.cell? ⟨w.heap.size, 1, none⟩ = some vp ∧ W.cell? ⟨u.heap.size, 0, none⟩ = some (.int .i64 (g + 1)) ∧ W.cell? ⟨u.heap.size, 1, none⟩ = some (.int .i64 (sd : Int)) ∧ W.cell? ⟨u.heap.size, 2, none⟩ = some (.int .i64 (tx.size : Int)))
        (first
          | (refine KC.out _ ?_; (repeat' (first | exact NB.out | apply bD)); done)
          | (refine KC.out _ ?_; (repeat' (first | exact NB3.out | apply bD)); done))
        (first
          | (go_at_call 31; refine (KST.out _ (bT HB1.out (by repeat' (first | exact NB.out | apply bD)))).mono ?_; rintro e v1 ⟨rfl, hb⟩; have NB : Hid (Below W1.heap.size W1 v1) := bT (by repeat' (first | exact NB.out | apply bD)) hb; have hzv1 := NB.out.size; clear hb)
          | (go_at_call 30; refine (KT.out _).mono ?_; rintro e v2 ⟨vt, rfl, ho, hb⟩; have HOT : Hid (OwnS v2 v1.heap.size vt tl) := ho; have NB : Hid (Below W1.heap.size W1 v2) := bT (by repeat' (first | exact NB.out | apply bD)) hb; have hzv2 : v1.heap.size ≤ v2.heap.size := hb.size; clear hb ho)
          | (go_at_call 32; refine (KHD.out _).mono ?_; rintro e v3 ⟨vh, rfl, hst, hb⟩; obtain ⟨ah, ch, hvh, hah⟩ := id hst; have hvh2 : vh = .slice ah 2 ch := hvh; clear hvh; subst hvh2; obtain ⟨bh, oh, rfl, _⟩ := hah 0 (by simp); clear hah; have HOT3 : Hid (OwnS v3 v1.heap.size vt tl) := OwnS.below HOT.out hb; have NB3 : Hid (Below W1.heap.size W1 v3) := bT (by repeat' (first | exact NB.out | apply bD)) hb; have hzv3 : v2.heap.size ≤ v3.heap.size := hb.size; obtain ⟨ga, ca, v4, hap, ho4, hl4, hg4⟩ := app_steps 58 v1.heap.size bh oh ch vt tl [(false, 0, hd), (true, 0, ByteArray.empty)] v3 HOT3.out (by omega) hst (by simp) (by have := HLN.out; simp; omega); have hap2 : (Builtin.append_ #[58, 58] 58 #[vt, .slice (some ⟨bh, oh, none⟩) 2 ch]).run Tryz.prog v3 = .ok (.slice (some ⟨ga, 0, none⟩) (tl.length + 2) ca) v4 := hap; clear hap; have HO4 : Hid _ := ho4; have NB : Hid (Below W1.heap.size W1 v4) := NB3.out.trans ((((Below.refl v1.heap.size v3).grown hg4 (by omega) (fun j hj => (World.ownsRow.lt HOT3.out j hj).1))).mono hzv1); have hz34 := hg4.size; clear hb hst ho4 hg4)
          | (refine step_app (by rfl) _ _ 58 (by rfl) _ _ _ v4 (by rfl) (by rfl) hap2 ?_))
      have HO5 : Hid (OwnS v4 v1.heap.size (.slice (some ⟨ga, 0, none⟩) (tl.length + 2) ca) al) := by rw [HAL.out]; exact HO4.out
      have hal : al.length = tl.length + 2 := by rw [HAL.out]; simp
      obtain ⟨gz, cz, hez, hz5, hz6, hz7, _⟩ := OwnS.shape HO5.out (by omega)
      have hcz : ca = cz := by injection hez
      have hzv4 := NB.out.size
      have HST4 : Hid (Steps v4 (.slice (some ⟨ga, 0, none⟩) (tl.length + 2) ca) al) := OwnS.steps HO5.out
      have KF : Hid (∀ W, Below v4.heap.size v4 W → Calls Tryz.prog 34 #[.slice (some ⟨ga, 0, none⟩) (tl.length + 2) ca, .int .i64 x] W fun e w' => (∃ v, e = .returned v ∧ Steps W v (al.take x.toNat)) ∧ W = w') := fun W hb => by
        have h := firstSteps_any ga 0 ca al x W (by rw [hal]; exact HST4.out.below hb) (by omega) (by omega)
        rw [hal] at h
        exact h
      clear HO4 HO5 HOT HOT3 hap2 hez hcz hz7 NB3 hal
      have NB4 : Hid (Below W1.heap.size W1 v4) := NB.out
      clear NB
      have NB : Hid (Below v4.heap.size v4 v4) := Below.refl _ _
      have KC4 : Hid (∀ W, Below v4.heap.size v4 W → W.cell? ⟨w.heap.size, 0, none⟩ = some vs ∧ W.cell? ⟨w.heap.size, 1, none⟩ = some vp) := fun W hb => ⟨(KC.out W (bT NB4.out hb)).1, (KC.out W (bT NB4.out hb)).2.1⟩
      have KC5 : Hid (∀ W, Below v4.heap.size v4 W → ∀ v0 v1 v2 v3 v5 : Value, (((((W.setCell ⟨w.heap.size + 1, 0, none⟩ v0).setCell ⟨w.heap.size + 1, 1, none⟩ v1).setCell ⟨w.heap.size + 1, 2, none⟩ v2).setCell ⟨w.heap.size + 1, 3, none⟩ v3).setCell ⟨w.heap.size + 1, 4, none⟩ v5).cell? ⟨w.heap.size, 0, none⟩ = some vs ∧ (((((W.setCell ⟨w.heap.size + 1, 0, none⟩ v0).setCell ⟨w.heap.size + 1, 1, none⟩ v1).setCell ⟨w.heap.size + 1, 2, none⟩ v2).setCell ⟨w.heap.size + 1, 3, none⟩ v3).setCell ⟨w.heap.size + 1, 4, none⟩ v5).cell? ⟨w.heap.size, 1, none⟩ = some vp) := fun W hb v0 v1 v2 v3 v5 => by
        have ho := onlyA_set5 (W := W) (b := w.heap.size + 1) (v0 := v0) (v1 := v1) (v2 := v2) (v3 := v3) (v4 := v5)
        have h := Box2.cells (Only.row ho (Box2.below HX.out (bT HB1.out (bT NB4.out hb)) (by omega)) (fun e => by omega))
        exact ⟨h.1, h.2.1⟩
      go_wp2_with fail
      go_region_held3 (fun W => W.cell? ⟨w.heap.size, 0, none⟩ = some vs ∧ W.cell? ⟨w.heap.size, 1, none⟩ = some vp)
        (first
          | (refine KC4.out _ ?_; (repeat' (first | exact NB.out | apply bD)); done)
          | (refine KC5.out _ ?_ _ _ _ _ _; (repeat' (first | exact NB.out | apply bD)); done))
        (first
          | (go_at_call 34; refine (KF.out _ (by repeat' (first | exact NB.out | apply bD))).mono ?_; rintro e y1 ⟨⟨vf, rfl, hst⟩, rfl⟩; have HSF : Hid _ := hst; clear hst)
          | (go_at_call 33; refine (KTK.out _ _ (bT HB1.out (bT NB4.out (by repeat' (first | exact NB.out | apply bD)))) HSF.out).mono ?_; rintro e y2 ⟨us, up, rfl, ho, hb⟩; have NB : Hid (Below v4.heap.size v4 y2) := bT (by repeat' (first | exact NB.out | apply bD)) hb; have hzy : v4.heap.size ≤ y2.heap.size := NB.out.size; have HOY : Hid (Own y2 v4.heap.size y2.heap.size us up O.ls O.lp) := ho.wide (Nat.le_refl _) (Nat.le_refl _); obtain ⟨va2, ca2, vb2, cb2, rfl, rfl⟩ := ho.shape; have HR2 : Hid _ := BoxA.below HR.out (bT HB1.out (bT NB4.out NB.out)) (by omega); obtain ⟨r0, r1, r2, r3, r4⟩ := BoxA.cells HR2.out; have rf := BoxA.frozen HR2.out; clear hb ho))
      go_wp2_with fail
      exact bodyPost_ret (v := outA (.slice va2 O.ls.length ca2) (.slice vb2 O.lp.length cb2) O.t O.g O.c) (by simp [results, Tryz.results9, go_sem, r0, r1, r2, r3, r4]) rfl (told_set5 HOY.out (bT (bT HB0.out HB1.out) (bT NB4.out NB.out)) (by omega) (Nat.le_refl _) (.inl (by omega)) (by omega))
  · rw [putAO_code hbig hO hc0]
    have K2 : Hid (Calls Tryz.prog 29 #[.agg #[vs, vp], .string tx] W0 fun e w' => e = .returned (.tuple #[headV 0 0 0, .iface 157 (.pointer (some (A ge)))]) ∧ Below W0.heap.size W0 w') := nextHead_err A vs vp ls lp tx g s n t ge W0 HS.out HP.out HF.out HSL.out HLL.out hA
    have KA : Hid (∀ W, Below W0.heap.size W0 W → Calls Tryz.prog 27 #[.iface 157 (.pointer (some (A ge)))] W fun e w' => e = .returned (.int .i64 (codeE (some ge))) ∧ W = w') := fun W hb => areaCode_any A (some ge) W (HSL.out.below hb) (fun k hk => by cases hk; exact hge)
    clear hA hO
    generalize codeE (some ge) = cd at *
    go_enter Tryz.func9, Tryz.ntmps9
    go_wp2_with fail
    rw [← hW0]
    clear hW0
    refine K2.out.mono ?_
    rintro e u ⟨rfl, hb⟩
    obtain ⟨W1, hW1⟩ : ∃ W1, W1 = u.alloc (.cells #[.int .i64 0, .int .i64 0, .int .i64 0] 49) := ⟨_, rfl⟩
    have HB1 : Hid (Below W0.heap.size W0 W1) := by rw [hW1]; exact bA hb _
    have hzu := hb.size
    have hz1 : W1.heap.size = u.heap.size + 1 := by rw [hW1]; simp
    obtain ⟨r0, r1, r2, r3, r4⟩ := BoxA.cells (BoxA.below HR.out HB1.out (by omega))
    have rf := BoxA.frozen (BoxA.below HR.out HB1.out (by omega))
    clear hb
    go_wp2_with fail
    rw [← hW1]
    clear hW1
    refine (KA.out _ HB1.out).mono ?_
    rintro e u2 ⟨rfl, rfl⟩
    go_wp2_with fail
    exact bodyPost_ret (v := outA (.slice none 0 0) (.slice none 0 0) ByteArray.empty 0 cd) (by simp [results, Tryz.results9, go_sem, r0, r1, r2, r3, r4]; rfl) rfl (told_set5 (o := illA cd) (own_zero _ w.heap.size w.heap.size) (bT HB0.out HB1.out) (Nat.le_refl _) (by omega) (.inr (by omega)) (by omega))
end Go.Proofs.YtkigmpeanllimaaGreatDoor.Disk
