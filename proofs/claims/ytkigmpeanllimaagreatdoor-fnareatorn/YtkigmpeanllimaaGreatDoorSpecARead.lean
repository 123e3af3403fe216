/- The model's AreaRead. -/
import Derived.Test.YtkigmpeanllimaaGreatDoorSpecSeen
import Derived.Test.YtkigmpeanllimaaGreatDoorTextsE
import Derived.Test.YtkigmpeanllimaaGreatDoorTextsC
import Derived.Test.YtkigmpeanllimaaGreatDoorTextsF
namespace Go.Proofs.YtkigmpeanllimaaGreatDoor.Disk
open Go.RowKit Go.Proofs.YtkigmpeanllimaaGreatDoor.Mem Go.Proofs.YtkigmpeanllimaaGreatDoor.Harn Go.Proofs.YtkigmpeanllimaaGreatDoor.DiskP

/-- The worlds of the model's look along a side. -/
structure SpecSt (w W : World) (vs vp : Value) (ls : List ByteArray) (lp : List (Int × ByteArray)) : Prop where
  b : Below w.heap.size w W
  x : Box2 W w.heap.size vs vp
  r : BoxA W (w.heap.size + 1) (.slice none 0 0) (.slice none 0 0) ByteArray.empty 0 0
  s0 : Strs w vs ls
  p0 : Pends w vp lp
  z : w.heap.size + 2 ≤ W.heap.size
theorem SpecSt.s {w W : World} {vs vp : Value} {ls : List ByteArray} {lp : List (Int × ByteArray)} (h : SpecSt w W vs vp ls lp) : Strs W vs ls := h.s0.below h.b
theorem SpecSt.p {w W : World} {vs vp : Value} {ls : List ByteArray} {lp : List (Int × ByteArray)} (h : SpecSt w W vs vp ls lp) : Pends W vp lp := h.p0.below h.b
theorem SpecSt.on {w W W' : World} {B : Nat} {vs vp : Value} {ls : List ByteArray} {lp : List (Int × ByteArray)} (h : SpecSt w W vs vp ls lp) (hb : Below B W W') (hB : w.heap.size + 2 ≤ B) (hz : W.heap.size ≤ W'.heap.size) : SpecSt w W' vs vp ls lp :=
  ⟨h.b.trans (hb.mono (by omega)), Box2.below h.x hb (by omega), BoxA.below h.r hb (by omega), h.s0, h.p0, by have := h.z; omega⟩
theorem SpecSt.below {w W W' : World} {vs vp : Value} {ls : List ByteArray} {lp : List (Int × ByteArray)} (h : SpecSt w W vs vp ls lp) (hb : Below W.heap.size W W') : SpecSt w W' vs vp ls lp := h.on hb h.z hb.size

set_option maxRecDepth 100000 in
set_option maxHeartbeats 8000000 in
theorem specARead_any (vs vp : Value) (ls : List ByteArray) (lp : List (Int × ByteArray)) (w : World) (hs : Strs w vs ls) (hp : Pends w vp lp) (hf : Fits ls lp) :
    Calls Tryz.prog 12 #[.agg #[vs, vp]] w fun e w' => ToldA w (readAO ls lp) e w' := by
  obtain ⟨W0, hW0⟩ : ∃ W0, W0 = (w.alloc (.cells #[vs, vp] 26)).alloc (.cells #[.slice none 0 0, .slice none 0 0, .string { data := #[] }, .int .i64 0, .int .i64 0] 31) := ⟨_, rfl⟩
  have HB0 : Hid (Below w.heap.size w W0) := by rw [hW0]; exact bA (bself _) _
  have HS0 : Hid (SpecSt w W0 vs vp ls lp) := ⟨HB0.out, by rw [hW0]; exact Sha.row_alloc (Sha.row_new w [vs, vp] 26) _, by rw [hW0]; exact Sha.row_new_at (w.alloc _) [.slice none 0 0, .slice none 0 0, .string ByteArray.empty, .int .i64 0, .int .i64 0] 31 _ (by simp), hs, hp, by rw [hW0]; simp⟩
  have HF : Hid (Fits ls lp) := hf
  have K1 : Hid (Calls Tryz.prog 36 #[.agg #[vs, vp]] W0 fun e w' => e = .returned (.bool (rightB ls lp)) ∧ Below W0.heap.size W0 w') := specRight_any _ vp ls lp W0 HS0.out.s HS0.out.p hf.n hf.m hf.t hf.y
  clear hs hp hf HB0
  cases hr : rightB ls lp
  · rw [readAO_form hr]
    rw [hr] at K1
    clear hr
    go_enter Tryz.func12, Tryz.ntmps12
    go_wp2_with (first
      | (go_at_call 36; rw [← hW0]; clear hW0; refine K1.out.mono ?_; rintro e w1 ⟨rfl, hb1⟩; have HS1 : Hid _ := HS0.out.below hb1; clear hb1)
      | (go_at_call 37; refine (illA_any 1 _).mono ?_; rintro e w2 ⟨rfl, hb2⟩; have HS2 : Hid _ := HS1.out.below hb2; have hz := HS2.out.z; obtain ⟨r0, r1, r2, r3, r4⟩ := BoxA.cells HS2.out.r; have rf := BoxA.frozen HS2.out.r; clear hb2))
    exact bodyPost_ret (v := outA (.slice none 0 0) (.slice none 0 0) ByteArray.empty 0 1) (by simp [results, Tryz.results12, go_sem, r0, r1, r2, r3, r4]) rfl (told_set5 (o := illA 1) (own_zero _ w.heap.size w.heap.size) HS2.out.b (Nat.le_refl _) (by omega) (.inr (by omega)) (by omega))
  have hl1 := ((right_iff ls lp).1 hr).1
  have hl64 := ((right_iff ls lp).1 hr).2.1
  have h31 := halfN_le hl64
  rw [hr] at K1
  have KS : Hid (∀ W, SpecSt w W vs vp ls lp → Calls Tryz.prog 38 #[.agg #[vs, vp]] W fun e w' => e = .returned (.tuple #[.int .i64 (seenO ls lp).1, .int .i64 (seenO ls lp).2.1, .int .i64 (seenO ls lp).2.2.1, .int .i64 (seenO ls lp).2.2.2]) ∧ Below W.heap.size W w') := fun W hW => specSeen_any vs vp ls lp W hW.s hW.p hr
  have hfo := fldO
  rcases seen_cases ls lp with ⟨g, s, n, hsn, hg0, hs1, hn1, _⟩ | hsn
  · have HSOME : Hid (∀ t, sideK (readD ls lp) (halfN ls) (firstN ls s) n = some t → readAO ls lp = ⟨ls, lp, t, g, 0⟩) := fun t h => readAO_some hr hsn h
    have HNONE : Hid (sideK (readD ls lp) (halfN ls) (firstN ls s) n = none → readAO ls lp = illA 5) := fun h => readAO_none hr hsn h
    have HFL : Hid (∀ k, k < halfN ls → firstN ls s + k < ls.length) := fun k hk => by
      have e2 : 1 + halfN ls + halfN ls ≤ ls.length := by unfold halfN; omega
      unfold firstN
      rcases (show s = 0 ∨ s = 1 by omega) with rfl | rfl <;> omega
    have KD : Hid (∀ k W, k < ls.length → SpecSt w W vs vp ls lp → Calls Tryz.prog 39 #[.agg #[vs, vp], .int .i64 (k : Int)] W fun e w' => ∃ us up, e = .returned (outV us up (readD ls lp k) 0) ∧ Below W.heap.size W w') := fun k W hk hW => specRead_at vs vp ls lp k _ W hr hk rfl hW.s hW.p
    have KFI : Hid (∀ W, SpecSt w W vs vp ls lp → Calls Tryz.prog 40 #[.agg #[vs, vp], .int .i64 (s : Int)] W fun e w' => e = .returned (.int .i64 ((firstN ls s : Nat) : Int)) ∧ Below W.heap.size W w') := fun W hW => specFirst_any vs vp ls s W hW.s hl1 hl64 hs1
    have RS : Hid (∀ k, k < ls.length → (readD ls lp k).size ≤ 64) := fun k hk => readD_size hr k hk
    have HRel : Hid (SideRel (readD ls lp) (sideK (readD ls lp) (halfN ls) (firstN ls s) n) (halfN ls) (firstN ls s) n ByteArray.empty) := side_rel0 _ _ _ _
    have hfn : firstN ls s ≤ 64 := by
      unfold firstN
      rcases (show s = 0 ∨ s = 1 by omega) with rfl | rfl <;> omega
    rw [hsn] at KS
    dsimp only at KS
    clear hsn hr
    generalize readAO ls lp = O at *
    generalize sideK (readD ls lp) (halfN ls) (firstN ls s) n = R at *
    generalize firstN ls s = fi at *
    generalize halfN ls = hf at *
    go_enter Tryz.func12, Tryz.ntmps12
    go_wp2_with (first
      | (go_at_call 36; rw [← hW0]; clear hW0; refine K1.out.mono ?_; rintro e w1 ⟨rfl, hb1⟩; have HS1 : Hid _ := HS0.out.below hb1; obtain ⟨x0, x1, _⟩ := Box2.cells HS1.out.x; clear hb1)
      | (go_at_call 38; refine (KS.out _ HS1.out).mono ?_; rintro e w2 ⟨rfl, hb2⟩; have HS2 : Hid _ := HS1.out.below hb2; clear hb2 x0 x1))
    have hz2 := HS2.out.z
    have HS3 : Hid (SpecSt w (w2.alloc (.cells #[] 5)) vs vp ls lp) := HS2.out.below (bself _)
    have HO3 : Hid (OwnsB (w2.alloc (.cells #[] 5)) w2.heap.size 5 (.slice (some ⟨w2.heap.size, 0, none⟩) 0 0) []) := own_empty _ _ _ (Nat.le_refl _)
    have hB3 : w2.heap.size ≤ (w2.alloc (.cells #[] 5)).heap.size := by simp
    generalize w2.alloc (.cells #[] 5) = w3 at *
    generalize w2.heap.size = B at *
    clear HS0 HS1 HS2 K1 KS
    go_loopw [7, 8] (fun b i W => ∃ (k : Nat) (l : List UInt8), i = .int .i64 k ∧ Hid (b ≠ .slice none 0 0) ∧ Hid (OwnsB W B 5 b l) ∧ Hid (k ≤ hf) ∧ Hid (SideRel (readD ls lp) R (hf - k) (fi + k) (n - l.length) ⟨l.toArray⟩) ∧ Hid (n - l.length ≤ 64 * (hf - k)) ∧ Hid (l.length ≤ n) ∧ Hid (SpecSt w W vs vp ls lp) ∧ Hid (B ≤ W.heap.size)) (fun _ i _ => hf - (intOf i).toNat)
    case atStart => exact ⟨0, [], rfl, (by show _ ≠ _; simp), HO3.out, Nat.zero_le _, HRel.out, (by show _ ≤ _; simpa using hn1), Nat.zero_le _, HS3.out, hB3⟩
    case round =>
      obtain ⟨k, l, rfl, HNV, HOW, HKH, HRL, HNL, HLN, HSS, HBW⟩ := hrel
      clear HO3 HS3 HRel hB3
      obtain ⟨gq, cq, rfl, hq1, hq2⟩ := ownB_shape HOW.out HNV.out
      have hln := HLN.out
      have hnl := HNL.out
      have hbw := HBW.out
      obtain ⟨x0, x1, _⟩ := Box2.cells HSS.out.x
      by_cases hlt : l.length < n
      · have hlt2 : (l.length : Int) < (n : Int) := by omega
        have hkh : k < hf := by omega
        have hkl := HFL.out k hkh
        have htz := RS.out (fi + k) hkl
        have KDk : Hid (∀ W, SpecSt w W vs vp ls lp → Calls Tryz.prog 39 #[.agg #[vs, vp], .int .i64 ((fi : Int) + (k : Int))] W fun e w' => ∃ us up, e = .returned (outV us up (readD ls lp (fi + k)) 0) ∧ Below W.heap.size W w') := fun W hW => by
          have h := KD.out (fi + k) W hkl hW
          rw [Int.natCast_add] at h
          exact h
        have HRL2 : Hid (SideRel (readD ls lp) R (hf - (k + 1) + 1) (fi + k) (n - l.length) ⟨l.toArray⟩) := by have h := HRL.out; rw [show hf - k = hf - (k + 1) + 1 by omega] at h; exact h
        obtain ⟨t, ht⟩ : ∃ t, readD ls lp (fi + k) = t := ⟨_, rfl⟩
        rw [ht] at KDk htz
        obtain ⟨c, hc⟩ : ∃ c, min 64 (n - l.length) = c := ⟨_, rfl⟩
        have KM : Hid (∀ W, Calls Tryz.prog 41 #[.int .i64 64, .int .i64 ((n : Int) - (l.length : Int))] W fun e w' => e = .returned (.int .i64 (c : Int)) ∧ W = w') := fun W => specMin_any 64 _ _ W (by split <;> omega)
        have hwr : IntKind.i64.wrap ((fi : Int) + (k : Int)) = (fi : Int) + (k : Int) := IntWalk.i64_in _ ⟨by omega, by omega⟩
        have kQ : wr.cell? ⟨w.heap.size, 0, none⟩ = some vs ∧ wr.cell? ⟨w.heap.size, 1, none⟩ = some vp := ⟨x0, x1⟩
        clear x0 x1 HRL
        go_wp2_with fail
        go_region_held3 (fun W => W.cell? ⟨w.heap.size, 0, none⟩ = some vs ∧ W.cell? ⟨w.heap.size, 1, none⟩ = some vp)
          (first
            | exact kQ)
          (first
            | (go_at_call 40; refine (KFI.out _ (by first | exact HSS.out | exact HSS.out.below (bD (Below.refl _ _)))).mono ?_; rintro e u ⟨rfl, hb⟩; have HSu : Hid (SpecSt w u vs vp ls lp) := HSS.out.below (by first | exact hb | exact bT (bD (Below.refl _ _)) hb); have HOu : Hid (OwnsB u B 5 _ l) := ownB_below HOW.out (by first | exact hb | exact bT (bD (Below.refl _ _)) hb); have hzu : wr.heap.size ≤ u.heap.size := hb.size; clear kQ; have kQ : u.cell? ⟨w.heap.size, 0, none⟩ = some vs ∧ u.cell? ⟨w.heap.size, 1, none⟩ = some vp := ⟨(Box2.cells HSu.out.x).1, (Box2.cells HSu.out.x).2.1⟩; clear hb)
            | (go_at_call 39; refine (KDk.out _ (by first | exact HSu.out | exact HSu.out.below (bD (Below.refl _ _)))).mono ?_; rintro e v ⟨us, up, rfl, hb⟩; have HSv : Hid (SpecSt w v vs vp ls lp) := HSu.out.below (by first | exact hb | exact bT (bD (Below.refl _ _)) hb); have HOv : Hid (OwnsB v B 5 _ l) := ownB_below HOu.out (by first | exact hb | exact bT (bD (Below.refl _ _)) hb); have hzv : u.heap.size ≤ v.heap.size := hb.size; clear kQ; have kQ : v.cell? ⟨w.heap.size, 0, none⟩ = some vs ∧ v.cell? ⟨w.heap.size, 1, none⟩ = some vp := ⟨(Box2.cells HSv.out.x).1, (Box2.cells HSv.out.x).2.1⟩; clear hb))
        have hzw := HBW.out
        by_cases hts : t.size < c
        · have HRN : Hid (R = none) := side_relN HRL2.out (by omega) (by rw [ht]; omega)
          have HO : Hid (O = illA 5) := HNONE.out HRN.out
          have hts2 : (t.size : Int) < (c : Int) := by omega
          go_wp2_with (first
            | (go_at_call 41; refine (KM.out _).mono ?_; rintro e y ⟨rfl, rfl⟩)
            | (go_at_call 37; refine (illA_any 5 _).mono ?_; rintro e w4 ⟨rfl, hb2⟩; have HS4 : Hid _ := HSv.out.below hb2; have hz := HS4.out.z; obtain ⟨r0, r1, r2, r3, r4⟩ := BoxA.cells HS4.out.r; have rf := BoxA.frozen HS4.out.r; clear hb2))
          exact bodyPost_ret (v := outA (.slice none 0 0) (.slice none 0 0) ByteArray.empty 0 5) (by simp [results, Tryz.results12, go_sem, r0, r1, r2, r3, r4]) rfl (by rw [HO.out]; exact told_set5 (o := illA 5) (own_zero _ w.heap.size w.heap.size) HS4.out.b (Nat.le_refl _) (by omega) (.inr (by omega)) (by omega))
        · have hts2 : ¬ (t.size : Int) < (c : Int) := by omega
          have hcz : (c : Int) ≤ (t.size : Int) := by omega
          have hc64 : c ≤ 64 := by omega
          obtain ⟨tc, htc⟩ : ∃ tc, t.extract 0 c = tc := ⟨_, rfl⟩
          have hcs : tc.size = c := by rw [← htc]; simp; omega
          have hbound : l.length + tc.size ≤ 1000000 := by omega
          have hBv : B ≤ v.heap.size := by omega
          have HR3 : Hid (SideRel (readD ls lp) R (hf - (k + 1)) (fi + (k + 1)) (n - (l ++ tc.data.toList).length) ⟨(l ++ tc.data.toList).toArray⟩) := by
            have h := side_rel1 HRL2.out (by omega) (by rw [ht]; omega)
            rw [ht, hc, htc] at h
            unfold Hid
            have e : (⟨(l ++ tc.data.toList).toArray⟩ : ByteArray) = (⟨l.toArray⟩ : ByteArray) ++ tc := by
              refine Unseal.ba_ext ?_
              rw [Crc.data_app]
            have e2 : n - (l ++ tc.data.toList).length = n - l.length - c := by
              have : tc.data.toList.length = tc.size := by simp
              rw [List.length_append]; omega
            rw [e, e2]
            exact h
          have HL3 : Hid ((l ++ tc.data.toList).length = l.length + c) := by
            have : tc.data.toList.length = tc.size := by simp
            unfold Hid
            rw [List.length_append]; omega
          go_wp2_with (first
            | (go_at_call 41; refine (KM.out _).mono ?_; rintro e y ⟨rfl, rfl⟩)
            | (at_builtin; refine wp_app_text (by rfl) _ _ (by rfl) B _ l tc (by rfl) (by rfl) HOv.out HNV.out hbound hBv ?_; intro v' w5 ho5 hn5 hb5 _ hz5; have HO5 : Hid _ := ho5; have HN5 : Hid _ := hn5; have HS5 : Hid (SpecSt w w5 vs vp ls lp) := HSv.out.on hb5 hz2 hz5; clear ho5 hn5 hb5))
          go_roundw
          case rel => exact ⟨k + 1, _, by go_num, HN5.out, HO5.out, by show _ ≤ _; omega, HR3.out, by show _ ≤ _; rw [HL3.out]; omega, by show _ ≤ _; rw [HL3.out]; omega, HS5.out, by show _ ≤ _; omega⟩
          case measure => simp [intOf]; omega
      · have hlt2 : ¬ (l.length : Int) < (n : Int) := by omega
        have HRS : Hid (R = some ⟨l.toArray⟩) := by have h := HRL.out; rw [show n - l.length = 0 by omega] at h; exact side_relS h
        have HO : Hid (O = ⟨ls, lp, ⟨l.toArray⟩, g, 0⟩) := HSOME.out _ HRS.out
        have hcv := ownB_text HOW.out HNV.out
        have kQ : wr.cell? ⟨w.heap.size, 0, none⟩ = some vs ∧ wr.cell? ⟨w.heap.size, 1, none⟩ = some vp := ⟨x0, x1⟩
        clear x0 x1
        have hz4 := HSS.out.z
        have KCP : Hid (∀ W, SpecSt w W vs vp ls lp → Calls Tryz.prog 42 #[.agg #[vs, vp]] W fun e w' => ∃ us up, e = .returned (.agg #[us, up]) ∧ Own w' W.heap.size w'.heap.size us up ls lp ∧ Below W.heap.size W w') := fun W hW => (copy_any vs vp ls lp W hW.s hW.p (by omega) HF.out.m).mono fun e w' ⟨gs, gp, cs, cp, h1, h2, h3, h4, h5, h6, h7, h8, h9, _⟩ => ⟨_, _, h1, own_mk h2 h3 h4 h7 h5 h8 h6, h9⟩
        obtain ⟨lt, hlt3⟩ : ∃ lt, (⟨l.toArray⟩ : ByteArray) = lt := ⟨_, rfl⟩
        have KS : Hid (∀ W, Below wr.heap.size wr W → W.cell? ⟨w.heap.size, 0, none⟩ = some vs ∧ W.cell? ⟨w.heap.size, 1, none⟩ = some vp ∧ (convert 22 9 (.slice (some ⟨gq, 0, none⟩) l.length cq)).run Tryz.prog W = .ok (.string lt) W) := fun W hb => by
          have h := HSS.out.below hb
          refine ⟨(Box2.cells h.x).1, (Box2.cells h.x).2.1, ?_⟩
          rw [← hlt3]
          exact ownB_text (ownB_below HOW.out hb) HNV.out
        have KS5 : Hid (∀ W, Below wr.heap.size wr W → ∀ v0 v1 v2 v3 v4 : Value, (((((W.setCell ⟨w.heap.size + 1, 0, none⟩ v0).setCell ⟨w.heap.size + 1, 1, none⟩ v1).setCell ⟨w.heap.size + 1, 2, none⟩ v2).setCell ⟨w.heap.size + 1, 3, none⟩ v3).setCell ⟨w.heap.size + 1, 4, none⟩ v4).cell? ⟨w.heap.size, 0, none⟩ = some vs ∧ (((((W.setCell ⟨w.heap.size + 1, 0, none⟩ v0).setCell ⟨w.heap.size + 1, 1, none⟩ v1).setCell ⟨w.heap.size + 1, 2, none⟩ v2).setCell ⟨w.heap.size + 1, 3, none⟩ v3).setCell ⟨w.heap.size + 1, 4, none⟩ v4).cell? ⟨w.heap.size, 1, none⟩ = some vp ∧ (convert 22 9 (.slice (some ⟨gq, 0, none⟩) l.length cq)).run Tryz.prog (((((W.setCell ⟨w.heap.size + 1, 0, none⟩ v0).setCell ⟨w.heap.size + 1, 1, none⟩ v1).setCell ⟨w.heap.size + 1, 2, none⟩ v2).setCell ⟨w.heap.size + 1, 3, none⟩ v3).setCell ⟨w.heap.size + 1, 4, none⟩ v4) = .ok (.string lt) (((((W.setCell ⟨w.heap.size + 1, 0, none⟩ v0).setCell ⟨w.heap.size + 1, 1, none⟩ v1).setCell ⟨w.heap.size + 1, 2, none⟩ v2).setCell ⟨w.heap.size + 1, 3, none⟩ v3).setCell ⟨w.heap.size + 1, 4, none⟩ v4)) := fun W hb v0 v1 v2 v3 v4 => by
          have h := HSS.out.below hb
          have ho := onlyA_set5 (W := W) (b := w.heap.size + 1) (v0 := v0) (v1 := v1) (v2 := v2) (v3 := v3) (v4 := v4)
          have hx := Only.row ho h.x (fun e => by omega)
          have hw := ownB_below HOW.out hb
          refine ⟨(Box2.cells hx).1, (Box2.cells hx).2.1, ?_⟩
          rw [← hlt3]
          exact ownB_text (ownB_same hw (fun k hk => ho.block k (World.ownsRow.lt hw k hk).2 (fun e => by have := (World.ownsRow.lt hw k hk).1; omega)) (Nat.le_refl _)) HNV.out
        have NB : Hid (Below wr.heap.size wr wr) := Below.refl _ _
        rw [hlt3] at HO
        clear HRS hlt3 hcv kQ
        go_wp2_with fail
        go_region_held3 (fun W => W.cell? ⟨w.heap.size, 0, none⟩ = some vs ∧ W.cell? ⟨w.heap.size, 1, none⟩ = some vp ∧ (convert 22 9 (.slice (some ⟨gq, 0, none⟩) l.length cq)).run Tryz.prog W = .ok (.string lt) W)
          (first
            | (refine KS.out _ ?_; (repeat' (first | exact NB.out | apply bD)); done)
            | (refine KS5.out _ ?_ _ _ _ _ _; (repeat' (first | exact NB.out | apply bD)); done))
          (first
            | (go_at_call 42; refine (KCP.out _ (HSS.out.below (by repeat' (first | exact NB.out | apply bD)))).mono ?_; rintro e u ⟨us, up, rfl, ho, hb⟩; have NB : Hid (Below wr.heap.size wr u) := bT (by repeat' (first | exact NB.out | apply bD)) hb; have HSu : Hid (SpecSt w u vs vp ls lp) := HSS.out.below NB.out; have HOu : Hid (Own u wr.heap.size u.heap.size us up ls lp) := ho; obtain ⟨va, ca, vb, cb, rfl, rfl⟩ := ho.shape; have hzu := HSu.out.z; obtain ⟨r0, r1, r2, r3, r4⟩ := BoxA.cells HSu.out.r; have rf := BoxA.frozen HSu.out.r; clear ho hb))
        go_wp2_with fail
        exact bodyPost_ret (v := outA (.slice va ls.length ca) (.slice vb lp.length cb) lt g 0) (by simp [results, Tryz.results12, go_sem, r0, r1, r2, r3, r4]) rfl (by rw [HO.out]; exact told_set5 (o := ⟨ls, lp, lt, g, 0⟩) HOu.out HSu.out.b (by omega) (Nat.le_refl _) (.inl (by omega)) (by omega))
  · obtain ⟨cd, hsn, hcd⟩ : ∃ cd : Int, seenO ls lp = (0, 0, 0, cd) ∧ (cd = 3 ∨ cd = 4 ∨ cd = 5) := by
      rcases hsn with h | h | h
      · exact ⟨3, h, .inl rfl⟩
      · exact ⟨4, h, .inr (.inl rfl)⟩
      · exact ⟨5, h, .inr (.inr rfl)⟩
    rw [readAO_code hr hsn (by omega)]
    rw [hsn] at KS
    dsimp only at KS
    have hcb : (cd != 0) = true := by rcases hcd with rfl | rfl | rfl <;> rfl
    clear hsn hr hcd
    go_enter Tryz.func12, Tryz.ntmps12
    go_wp2_with (first
      | (go_at_call 36; rw [← hW0]; clear hW0; refine K1.out.mono ?_; rintro e w1 ⟨rfl, hb1⟩; have HS1 : Hid _ := HS0.out.below hb1; obtain ⟨x0, x1, _⟩ := Box2.cells HS1.out.x; clear hb1)
      | (go_at_call 38; refine (KS.out _ HS1.out).mono ?_; rintro e w2 ⟨rfl, hb2⟩; have HS2 : Hid _ := HS1.out.below hb2; clear hb2)
      | (go_at_call 37; refine (illA_any cd _).mono ?_; rintro e w3 ⟨rfl, hb2⟩; have HS3 : Hid _ := HS2.out.below hb2; have hz := HS3.out.z; obtain ⟨r0, r1, r2, r3, r4⟩ := BoxA.cells HS3.out.r; have rf := BoxA.frozen HS3.out.r; clear hb2))
    exact bodyPost_ret (v := outA (.slice none 0 0) (.slice none 0 0) ByteArray.empty 0 cd) (by simp [results, Tryz.results12, go_sem, r0, r1, r2, r3, r4]) rfl (told_set5 (o := illA cd) (own_zero _ w.heap.size w.heap.size) HS3.out.b (Nat.le_refl _) (by omega) (.inr (by omega)) (by omega))
end Go.Proofs.YtkigmpeanllimaaGreatDoor.Disk
