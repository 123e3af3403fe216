/- The model's AreaPut. -/
import Derived.Test.YtkigmpeanllimaaGreatDoorSpecARead
import Derived.Test.YtkigmpeanllimaaGreatDoorTextsE
import Derived.Test.YtkigmpeanllimaaGreatDoorSpecWrite
import Derived.Test.YtkigmpeanllimaaGreatDoorSpecFlush
import Derived.Stop.LaidErr
namespace Go.Proofs.YtkigmpeanllimaaGreatDoor.Disk
open Go.RowKit Go.Proofs.YtkigmpeanllimaaGreatDoor.Mem Go.Proofs.YtkigmpeanllimaaGreatDoor.Harn Go.Proofs.YtkigmpeanllimaaGreatDoor.DiskP

theorem readAO_cases (ls : List ByteArray) (lp : List (Int × ByteArray)) : (∃ (g : Int) (s n : Nat) (t : ByteArray), rightB ls lp = true ∧ readAO ls lp = ⟨ls, lp, t, g, 0⟩ ∧ 0 ≤ g ∧ s ≤ 1 ∧ n ≤ 64 * halfN ls ∧ seenO ls lp = (g, (s : Int), (n : Int), 0)) ∨ (rightB ls lp = false) ∨ (∃ c, rightB ls lp = true ∧ readAO ls lp = illA c ∧ c ≠ 0) := by
  cases hr : rightB ls lp
  · exact .inr (.inl rfl)
  · rcases seen_cases ls lp with ⟨g, s, n, hsn, hg0, hs1, hn1, _⟩ | hsn
    · cases hR : sideK (readD ls lp) (halfN ls) (firstN ls s) n with
      | none => exact .inr (.inr ⟨5, rfl, readAO_none hr hsn hR, by decide⟩)
      | some t => exact .inl ⟨g, s, n, t, rfl, readAO_some hr hsn hR, hg0, hs1, hn1, hsn⟩
    · obtain ⟨cd, hsn, hcd⟩ : ∃ cd : Int, seenO ls lp = (0, 0, 0, cd) ∧ (cd = 3 ∨ cd = 4 ∨ cd = 5) := by
        rcases hsn with h | h | h
        · exact ⟨3, h, .inl rfl⟩
        · exact ⟨4, h, .inr (.inl rfl)⟩
        · exact ⟨5, h, .inr (.inr rfl)⟩
      exact .inr (.inr ⟨cd, rfl, readAO_code hr hsn (by omega), by omega⟩)

/-- What the model's rounds of steps keep. -/
structure PutSt (w W : World) (vs vp : Value) (ls : List ByteArray) (lp : List (Int × ByteArray)) (gx gn : Nat) (g : Int) (va : Option Addr) (ca : Nat) (vb : Option Addr) (cb : Nat) (lk : List ByteArray) (qk : List (Int × ByteArray)) (lo hi : Nat) : Prop where
  st : SpecSt w W vs vp ls lp
  gc : W.cell? ⟨gx, 3, none⟩ = some (.int .i64 g)
  n : Box2 W gn (.slice va lk.length ca) (.slice vb qk.length cb)
  o : Own W lo hi (.slice va lk.length ca) (.slice vb qk.length cb) lk qk
  h1 : w.heap.size + 2 ≤ lo
  h2 : hi ≤ W.heap.size
  h3 : gn < lo ∨ hi ≤ gn
  h5 : gn < W.heap.size
  h6 : gx < gn
  h7 : w.heap.size + 2 ≤ gx
theorem PutSt.below {w W W' : World} {vs vp : Value} {ls : List ByteArray} {lp : List (Int × ByteArray)} {gx gn : Nat} {g : Int} {va : Option Addr} {ca : Nat} {vb : Option Addr} {cb : Nat} {lk : List ByteArray} {qk : List (Int × ByteArray)} {lo hi : Nat} (h : PutSt w W vs vp ls lp gx gn g va ca vb cb lk qk lo hi) (hb : Below W.heap.size W W') : PutSt w W' vs vp ls lp gx gn g va ca vb cb lk qk lo hi := by
  have hz := hb.size
  have h5 := h.h5
  have h6 := h.h6
  have h2 := h.h2
  exact ⟨h.st.below hb, (hb.cell (p := ⟨gx, 3, none⟩) (by show gx < _; omega)).trans h.gc, h.n.below hb h5, h.o.below hb, h.h1, by omega, h.h3, by omega, h6, h.h7⟩
/-- The disk behind a step comes into its box. -/
theorem putSt_next {w W u : World} {vs vp : Value} {ls : List ByteArray} {lp : List (Int × ByteArray)} {gx gn gy W9 : Nat} {g : Int} {va va2 : Option Addr} {ca ca2 : Nat} {vb vb2 : Option Addr} {cb cb2 : Nat} {lk l2 : List ByteArray} {qk p2 : List (Int × ByteArray)} {lo hi : Nat} {x2 x3 : Value} (h : PutSt w W vs vp ls lp gx gn g va ca vb cb lk qk lo hi) (hb : Below W.heap.size W u) (ho : Own u W9 u.heap.size (.slice va2 l2.length ca2) (.slice vb2 p2.length cb2) l2 p2) (h9 : gy < W9) (hy : W.heap.size ≤ gy) (h8 : W9 ≤ u.heap.size) :
    PutSt w ((((((u.setCell ⟨gy, 0, none⟩ (.slice va2 l2.length ca2)).setCell ⟨gy, 1, none⟩ (.slice vb2 p2.length cb2)).setCell ⟨gy, 2, none⟩ x2).setCell ⟨gy, 3, none⟩ x3).setCell ⟨gn, 0, none⟩ (.slice va2 l2.length ca2)).setCell ⟨gn, 1, none⟩ (.slice vb2 p2.length cb2)) vs vp ls lp gx gn g va2 ca2 vb2 cb2 l2 p2 W9 u.heap.size := by
  have h0 := h.below hb
  have hz := hb.size
  have h5 := h.h5
  have h6 := h.h6
  have h7 := h.h7
  have hw := h.st.z
  have o4 := onlyA_set4 (W := u) (b := gy) (v0 := .slice va2 l2.length ca2) (v1 := .slice vb2 p2.length cb2) (v2 := x2) (v3 := x3)
  have o2 := onlyA_set2 (W := (((u.setCell ⟨gy, 0, none⟩ (.slice va2 l2.length ca2)).setCell ⟨gy, 1, none⟩ (.slice vb2 p2.length cb2)).setCell ⟨gy, 2, none⟩ x2).setCell ⟨gy, 3, none⟩ x3) (b := gn) (v0 := .slice va2 l2.length ca2) (v1 := .slice vb2 p2.length cb2)
  have z4 : ((((u.setCell ⟨gy, 0, none⟩ (.slice va2 l2.length ca2)).setCell ⟨gy, 1, none⟩ (.slice vb2 p2.length cb2)).setCell ⟨gy, 2, none⟩ x2).setCell ⟨gy, 3, none⟩ x3).heap.size = u.heap.size := by simp
  refine ⟨h0.st.on (B := w.heap.size + 2) (o2.below (o4.below (Below.refl _ _) (by omega) (fun k hk e => by omega)) (by omega) (fun k hk e => by omega)) (Nat.le_refl _) (by simp), ?_, box2_set (Only.row o4 h0.n (fun e => by omega)), ?_, by omega, by simp, .inl (by omega), by simp; omega, h6, h7⟩
  · exact ((o2.cell (a := ⟨gx, 3, none⟩) (by show gx < _; omega) (fun e => by have : gx = gn := e; omega)).trans (o4.cell (a := ⟨gx, 3, none⟩) (by show gx < _; omega) (fun e => by have : gx = gy := e; omega))).trans h0.gc
  · exact (ho.only o4 (fun k h1 h2 e => by omega)).only o2 (fun k h1 h2 e => by omega)

set_option maxRecDepth 100000 in
set_option maxHeartbeats 8000000 in
theorem specPut_any (vs vp : Value) (ls : List ByteArray) (lp : List (Int × ByteArray)) (tx : ByteArray) (x : Int) (w : World) (hs : Strs w vs ls) (hp : Pends w vp lp) (hf : Fits ls lp) (hx : (Lit.int .i64 x).wf = true) :
    Calls Tryz.prog 13 #[.agg #[vs, vp], .string tx, .int .i64 x] w fun e w' => ToldA w (putAO ls lp tx x) e w' := by
  obtain ⟨W0, hW0⟩ : ∃ W0, W0 = (w.alloc (.cells #[vs, vp] 26)).alloc (.cells #[.slice none 0 0, .slice none 0 0, .string { data := #[] }, .int .i64 0, .int .i64 0] 31) := ⟨_, rfl⟩
  have HB0 : Hid (Below w.heap.size w W0) := by rw [hW0]; exact bA (bself _) _
  have HS0 : Hid (SpecSt w W0 vs vp ls lp) := ⟨HB0.out, by rw [hW0]; exact Sha.row_alloc (Sha.row_new w [vs, vp] 26) _, by rw [hW0]; exact Sha.row_new_at (w.alloc _) [.slice none 0 0, .slice none 0 0, .string ByteArray.empty, .int .i64 0, .int .i64 0] 31 _ (by simp), hs, hp, by rw [hW0]; simp⟩
  have HF : Hid (Fits ls lp) := hf
  have K1 : Hid (Calls Tryz.prog 36 #[.agg #[vs, vp]] W0 fun e w' => e = .returned (.bool (rightB ls lp)) ∧ Below W0.heap.size W0 w') := specRight_any _ vp ls lp W0 HS0.out.s HS0.out.p hf.n hf.m hf.t hf.y
  have KA : Hid (∀ W, SpecSt w W vs vp ls lp → Calls Tryz.prog 12 #[.agg #[vs, vp]] W fun e w' => ToldA W (readAO ls lp) e w') := fun W hW => specARead_any vs vp ls lp W hW.s hW.p HF.out
  clear hs hp hf HB0
  by_cases hbig : 8000 < tx.size
  · rw [putAO_size hbig]
    have hb2 : (8000 : Int) < (tx.size : Int) := by omega
    go_enter Tryz.func13, Tryz.ntmps13
    go_wp2_with fail
    rw [← hW0]
    clear hW0
    refine (illA_any 2 _).mono ?_
    rintro e w2 ⟨rfl, hb2⟩
    have HS2 : Hid _ := HS0.out.below hb2
    have hz := HS2.out.z
    obtain ⟨r0, r1, r2, r3, r4⟩ := BoxA.cells HS2.out.r
    have rf := BoxA.frozen HS2.out.r
    clear hb2
    go_wp2_with fail
    exact bodyPost_ret (v := outA (.slice none 0 0) (.slice none 0 0) ByteArray.empty 0 2) (by simp [results, Tryz.results13, go_sem, r0, r1, r2, r3, r4]) rfl (told_set5 (o := illA 2) (own_zero _ w.heap.size w.heap.size) HS2.out.b (Nat.le_refl _) (by omega) (.inr (by omega)) (by omega))
  have hb2 : ¬ (8000 : Int) < (tx.size : Int) := by omega
  rcases readAO_cases ls lp with ⟨g, s, n, t, hr, hO, hg0, hs1, hn1, hsn⟩ | hr | ⟨c, hr, hO, hc⟩
  · have hl1 := ((right_iff ls lp).1 hr).1
    have hl64 := ((right_iff ls lp).1 hr).2.1
    have h31 := halfN_le hl64
    have KA2 : Hid (∀ W, SpecSt w W vs vp ls lp → Calls Tryz.prog 12 #[.agg #[vs, vp]] W fun e w' => ∃ va ca vb cb, e = .returned (outA (.slice va ls.length ca) (.slice vb lp.length cb) t g 0) ∧ Below W.heap.size W w') := fun W hW => (KA.out W hW).mono fun e w' ⟨us, up, he, ho, hb⟩ => by
      rw [hO] at he ho
      obtain ⟨va, ca, vb, cb, rfl, rfl⟩ := ho.shape
      exact ⟨va, ca, vb, cb, he, hb⟩
    have KS : Hid (∀ W, SpecSt w W vs vp ls lp → Calls Tryz.prog 38 #[.agg #[vs, vp]] W fun e w' => e = .returned (.tuple #[.int .i64 g, .int .i64 (s : Int), .int .i64 (n : Int), .int .i64 0]) ∧ Below W.heap.size W w') := fun W hW => by
      have h := specSeen_any vs vp ls lp W hW.s hW.p hr
      rw [hsn] at h
      exact h
    have KH : Hid (∀ W, SpecSt w W vs vp ls lp → Calls Tryz.prog 43 #[.agg #[vs, vp]] W fun e w' => e = .returned (.int .i64 (halfN ls : Nat)) ∧ Below W.heap.size W w') := fun W hW => specHalf_any vs vp ls W hW.s hl1 (by omega)
    rw [hr] at K1
    clear KA
    by_cases hfull : 64 * halfN ls < tx.size ∨ 1000000 ≤ g
    · rw [putAO_full hbig hO hfull]
      clear hr hO hsn
      generalize halfN ls = hf at *
      have hd : ¬ 64 * hf < tx.size → 1000000 ≤ g := fun h => hfull.resolve_left h
      by_cases h64 : 64 * hf < tx.size
      · have h64i : 64 * (hf : Int) < (tx.size : Int) := by omega
        clear hd hfull
        go_enter Tryz.func13, Tryz.ntmps13
        go_wp2_with (first
          | (go_at_call 36; rw [← hW0]; clear hW0; refine K1.out.mono ?_; rintro e w1 ⟨rfl, hb1⟩; have HS1 : Hid _ := HS0.out.below hb1; obtain ⟨x0, x1, _⟩ := Box2.cells HS1.out.x; clear hb1)
          | (go_at_call 12; refine (KA2.out _ HS1.out).mono ?_; rintro e w2 ⟨va, ca, vb, cb, rfl, hb2⟩; have HS2 : Hid _ := HS1.out.below hb2; clear hb2 x0 x1; obtain ⟨x0, x1, _⟩ := Box2.cells HS2.out.x; have hzz := HS2.out.z; have hq2 : w.heap.size < w2.heap.size := (by omega))
          | (go_at_call 38; refine (KS.out _ (HS2.out.below (bself _))).mono ?_; rintro e w3 ⟨rfl, hb2⟩; have HS3 : Hid _ := (HS2.out.below (bself _)).below hb2; clear x0 x1; obtain ⟨x0, x1, _⟩ := Box2.cells HS3.out.x; clear hb2)
          | (go_at_call 43; refine (KH.out _ HS3.out).mono ?_; rintro e w4 ⟨rfl, hb2⟩; have HS4 : Hid _ := HS3.out.below hb2; clear x0 x1 hb2)
          | (go_at_call 37; refine (illA_any 9 _).mono ?_; rintro e w5 ⟨rfl, hb2⟩; have HS5 : Hid _ := HS4.out.below hb2; have hz := HS5.out.z; obtain ⟨r0, r1, r2, r3, r4⟩ := BoxA.cells HS5.out.r; have rf := BoxA.frozen HS5.out.r; clear hb2))
        exact bodyPost_ret (v := outA (.slice none 0 0) (.slice none 0 0) ByteArray.empty 0 9) (by simp [results, Tryz.results13, go_sem, r0, r1, r2, r3, r4]) rfl (told_set5 (o := illA 9) (own_zero _ w.heap.size w.heap.size) HS5.out.b (Nat.le_refl _) (by omega) (.inr (by omega)) (by omega))
      · have h64i : ¬ 64 * (hf : Int) < (tx.size : Int) := by omega
        have hgg := hd h64
        clear hd hfull
        go_enter Tryz.func13, Tryz.ntmps13
        go_wp2_with (first
          | (go_at_call 36; rw [← hW0]; clear hW0; refine K1.out.mono ?_; rintro e w1 ⟨rfl, hb1⟩; have HS1 : Hid _ := HS0.out.below hb1; obtain ⟨x0, x1, _⟩ := Box2.cells HS1.out.x; clear hb1)
          | (go_at_call 12; refine (KA2.out _ HS1.out).mono ?_; rintro e w2 ⟨va, ca, vb, cb, rfl, hb2⟩; have HS2 : Hid _ := HS1.out.below hb2; clear hb2 x0 x1; obtain ⟨x0, x1, _⟩ := Box2.cells HS2.out.x; have hzz := HS2.out.z; have hq2 : w.heap.size < w2.heap.size := (by omega))
          | (go_at_call 38; refine (KS.out _ (HS2.out.below (bself _))).mono ?_; rintro e w3 ⟨rfl, hb2⟩; have g3 : w3.cell? ⟨w2.heap.size, 3, none⟩ = some (.int .i64 g) := (hb2.cell (p := ⟨w2.heap.size, 3, none⟩) (by simp)).trans (BoxA.cells (boxA_at w2 _ _ _ _ _)).2.2.2.1; have hz3 := hb2.size; simp at hz3; have HS3 : Hid _ := (HS2.out.below (bself _)).below hb2; clear x0 x1; obtain ⟨x0, x1, _⟩ := Box2.cells HS3.out.x; clear hb2)
          | (go_at_call 43; refine (KH.out _ HS3.out).mono ?_; rintro e w4 ⟨rfl, hb2⟩; have g4 : w4.cell? ⟨w2.heap.size, 3, none⟩ = some (.int .i64 g) := (hb2.cell (p := ⟨w2.heap.size, 3, none⟩) (by show w2.heap.size < _; omega)).trans g3; clear g3; have HS4 : Hid _ := HS3.out.below hb2; clear x0 x1 hb2)
          | (go_at_call 37; refine (illA_any 9 _).mono ?_; rintro e w5 ⟨rfl, hb2⟩; have HS5 : Hid _ := HS4.out.below hb2; have hz := HS5.out.z; obtain ⟨r0, r1, r2, r3, r4⟩ := BoxA.cells HS5.out.r; have rf := BoxA.frozen HS5.out.r; clear hb2))
        exact bodyPost_ret (v := outA (.slice none 0 0) (.slice none 0 0) ByteArray.empty 0 9) (by simp [results, Tryz.results13, go_sem, r0, r1, r2, r3, r4]) rfl (told_set5 (o := illA 9) (own_zero _ w.heap.size w.heap.size) HS5.out.b (Nat.le_refl _) (by omega) (.inr (by omega)) (by omega))
    · rw [putAO_ok hbig hO hsn hfull]
      obtain ⟨sd, hsd⟩ : ∃ sd, 1 - s = sd := ⟨_, rfl⟩
      rw [hsd]
      have hsd1 : sd ≤ 1 := by omega
      have HSI : Hid ((sd : Int) = (1 : Int) - (s : Int)) := by unfold Hid; omega
      have hg1 : g < 1000000 := by omega
      have hz64 : tx.size ≤ 64 * halfN ls := by omega
      have HFL : Hid (∀ k, k < halfN ls → firstN ls sd + k < ls.length) := fun k hk => by
        have e2 : 1 + halfN ls + halfN ls ≤ ls.length := by unfold halfN; omega
        unfold firstN
        rcases (show sd = 0 ∨ sd = 1 by omega) with rfl | rfl <;> omega
      have hfi : firstN ls sd ≤ 64 := by
        unfold firstN
        rcases (show sd = 0 ∨ sd = 1 by omega) with rfl | rfl <;> omega
      have KFI : Hid (∀ W, SpecSt w W vs vp ls lp → Calls Tryz.prog 40 #[.agg #[vs, vp], .int .i64 (1 - (s : Int))] W fun e w' => e = .returned (.int .i64 ((firstN ls sd : Nat) : Int)) ∧ Below W.heap.size W w') := fun W hW => by rw [← HSI.out]; exact specFirst_any vs vp ls sd W hW.s hl1 hl64 hsd1
      have KCP : Hid (∀ W, SpecSt w W vs vp ls lp → Calls Tryz.prog 42 #[.agg #[vs, vp]] W fun e w' => ∃ va ca vb cb, e = .returned (.agg #[.slice va ls.length ca, .slice vb lp.length cb]) ∧ Own w' W.heap.size w'.heap.size (.slice va ls.length ca) (.slice vb lp.length cb) ls lp ∧ Below W.heap.size W w') := fun W hW => (copy_any vs vp ls lp W hW.s hW.p (by omega) HF.out.m).mono fun e w' ⟨gs, gp, cs, cp, h1, h2, h3, h4, h5, h6, h7, h8, h9, _⟩ => ⟨_, _, _, _, h1, own_mk h2 h3 h4 h7 h5 h8 h6, h9⟩
      have KHD : Hid (∀ W, Calls Tryz.prog 45 #[.int .i64 (g + 1), .int .i64 (1 - (s : Int)), .int .i64 (tx.size : Int)] W fun e w' => e = .returned (.string (headB (g + 1) sd tx.size)) ∧ Below W.heap.size W w') := fun W => by rw [← HSI.out]; exact specHead_any (g + 1) sd tx.size W (by omega) (by omega) (by omega) (by omega) (by omega) (by omega)
      obtain ⟨T, hT⟩ : ∃ T, textN tx = T := ⟨_, rfl⟩
      have hT2 : T = (tx.size + 63) / 64 := hT.symm
      have HTI : Hid (((tx.size : Int) + 64 - 1) / 64 = (T : Int) ∧ ((tx.size : Int) + 63) / 64 = (T : Int)) := ⟨by omega, by omega⟩
      have hTb : T ≤ 130 := by omega
      have HAW : Hid (∀ k (hk : k < (allS tx (firstN ls sd) (g + 1) sd).length), k < T → (allS tx (firstN ls sd) (g + 1) sd)[k] = (false, ((firstN ls sd + k : Nat) : Int), pieceN tx k)) := fun k hk h => allS_write _ _ _ _ k (by omega) hk
      have HAF : Hid (∀ k (hk : k < (allS tx (firstN ls sd) (g + 1) sd).length), k = T → (allS tx (firstN ls sd) (g + 1) sd)[k] = (true, 0, ByteArray.empty)) := fun k hk h => allS_flush _ _ _ _ k (by omega) hk
      have HAH : Hid (∀ k (hk : k < (allS tx (firstN ls sd) (g + 1) sd).length), k = T + 1 → (allS tx (firstN ls sd) (g + 1) sd)[k] = (false, 0, headB (g + 1) sd tx.size)) := fun k hk h => allS_head _ _ _ _ k (by omega) hk
      have HAE : Hid (∀ k (hk : k < (allS tx (firstN ls sd) (g + 1) sd).length), k = T + 2 → (allS tx (firstN ls sd) (g + 1) sd)[k] = (true, 0, ByteArray.empty)) := fun k hk h => allS_last _ _ _ _ k (by omega) hk
      have HAL : Hid ((allS tx (firstN ls sd) (g + 1) sd).length = T + 3) := by unfold Hid; rw [allS_len, hT]
      have HPC : Hid (∀ k, pieceN tx k = tx.extract (64 * k) (min tx.size (64 * (k + 1)))) := fun k => rfl
      have hhz := headB_size (g + 1) sd tx.size
      have HT2 : Hid (T = (tx.size + 63) / 64) := hT2
      clear hr hO hsn hfull hT hT2
      generalize allS tx (firstN ls sd) (g + 1) sd = al at *
      generalize headB (g + 1) sd tx.size = hd at *
      generalize firstN ls sd = fi at *
      generalize halfN ls = hf at *
      have h64i : ¬ 64 * (hf : Int) < (tx.size : Int) := by omega
      have hgd : decide (1000000 ≤ g) = false := decide_eq_false (by omega)
      obtain ⟨σ, hσ⟩ : ∃ σ, al.take x.toNat = σ := ⟨_, rfl⟩
      rw [hσ]
      have hσl : σ.length = min x.toNat (T + 3) := by rw [← hσ, List.length_take, HAL.out]
      have hσa : σ.length ≤ al.length := by have := HAL.out; omega
      have HSG : Hid (∀ k (hk : k < σ.length), σ[k] = al[k]'(Nat.lt_of_lt_of_le hk hσa)) := fun k hk => by subst hσ; exact List.getElem_take
      have HLS : Hid (σ.length = min x.toNat (T + 3)) := hσl
      clear hσ hσl
      have hxw : -9223372036854775808 ≤ x ∧ x ≤ 9223372036854775807 := by
        simp [Lit.wf, IntKind.min, IntKind.max, IntKind.bits, IntKind.signed] at hx
        omega
      clear hx
      go_enter Tryz.func13, Tryz.ntmps13
      go_wp2_with (first
        | (go_at_call 36; rw [← hW0]; clear hW0; refine K1.out.mono ?_; rintro e w1 ⟨rfl, hb1⟩; have HS1 : Hid _ := HS0.out.below hb1; obtain ⟨x0, x1, _⟩ := Box2.cells HS1.out.x; clear hb1)
        | (go_at_call 12; refine (KA2.out _ HS1.out).mono ?_; rintro e w2 ⟨va, ca, vb, cb, rfl, hb2⟩; have HS2 : Hid _ := HS1.out.below hb2; clear hb2 x0 x1; obtain ⟨x0, x1, _⟩ := Box2.cells HS2.out.x; have hzz := HS2.out.z; have hq2 : w.heap.size < w2.heap.size := (by omega))
        | (go_at_call 38; refine (KS.out _ (HS2.out.below (bself _))).mono ?_; rintro e w3 ⟨rfl, hb2⟩; have g3 : w3.cell? ⟨w2.heap.size, 3, none⟩ = some (.int .i64 g) := (hb2.cell (p := ⟨w2.heap.size, 3, none⟩) (by simp)).trans (BoxA.cells (boxA_at w2 _ _ _ _ _)).2.2.2.1; have hz3 := hb2.size; simp at hz3; have HS3 : Hid _ := (HS2.out.below (bself _)).below hb2; clear x0 x1; obtain ⟨x0, x1, _⟩ := Box2.cells HS3.out.x; clear hb2)
        | (go_at_call 43; refine (KH.out _ HS3.out).mono ?_; rintro e w4 ⟨rfl, hb2⟩; have g4 : w4.cell? ⟨w2.heap.size, 3, none⟩ = some (.int .i64 g) := (hb2.cell (p := ⟨w2.heap.size, 3, none⟩) (by show w2.heap.size < _; omega)).trans g3; clear g3; have hz4 := hb2.size; have HS4 : Hid _ := HS3.out.below hb2; clear x0 x1 hb2; obtain ⟨x0, x1, _⟩ := Box2.cells HS4.out.x)
        | (go_at_call 42; refine (KCP.out _ HS4.out).mono ?_; rintro e w5 ⟨va5, ca5, vb5, cb5, rfl, ho5, hb2⟩; have HS5 : Hid (PutSt w (w5.alloc (.cells #[.slice va5 ls.length ca5, .slice vb5 lp.length cb5] 26)) vs vp ls lp w2.heap.size w5.heap.size g va5 ca5 vb5 cb5 ls lp w4.heap.size w5.heap.size) := (by have hz5 := hb2.size; exact ⟨(HS4.out.below hb2).below (bself _), (cell?_alloc_old _ ((hb2.cell (p := ⟨w2.heap.size, 3, none⟩) (by show w2.heap.size < _; omega)).trans g4)), box2_at w5 _ _, ho5.below (bself _), by omega, by simp, .inr (Nat.le_refl _), by simp, by omega, by omega⟩); clear hb2 ho5 x0 x1 g4))
      first | rw [HTI.out.1] | rw [HTI.out.2]
      generalize w5.alloc (.cells #[.slice va5 ls.length ca5, .slice vb5 lp.length cb5] 26) = w6 at *
      generalize w2.heap.size = gx at *
      generalize w5.heap.size = gn at *
      clear HS0 HS1 HS2 HS3 HS4 K1 KA2 KS KH KCP
      go_loopw [15] (fun i W => ∃ k : Nat, i = .int .i64 k ∧ k ≤ σ.length ∧ ∃ va ca vb cb lk qk lo hi, PutSt w W vs vp ls lp gx gn g va ca vb cb lk qk lo hi ∧ Fits lk qk ∧ runO ls lp σ = runO lk qk (σ.drop k)) (fun i _ => σ.length - (intOf i).toNat)
      case atStart => exact ⟨0, rfl, by omega, _, _, _, _, ls, lp, _, _, HS5.out, HF.out, rfl⟩
      case round =>
        obtain ⟨k, rfl, hk, va6, ca6, vb6, cb6, lk, qk, lo, hi, hpt, hfk, hrr⟩ := hrel
        clear HS5
        have HPT : Hid _ := hpt
        have HFK : Hid (Fits lk qk) := hfk
        have HRR : Hid _ := hrr
        have q5 := hpt.h5
        have q6 := hpt.h6
        have q7 := hpt.h7
        have qz := hpt.st.z
        clear hpt hfk hrr
        have hls := HLS.out
        by_cases hlt : k < σ.length
        · have hk3 : (k : Int) < (T : Int) + 3 := by omega
          have hkx : (k : Int) < x := by omega
          have hka : k < al.length := by have := HAL.out; omega
          have hkl : k ≤ T + 2 := by omega
          have hkn : k + 1 ≤ σ.length := hlt
          clear hls
          have HRD : Hid (runO ls lp σ = if (stepO lk qk σ[k]).c = 0 then runO (stepO lk qk σ[k]).ls (stepO lk qk σ[k]).lp (σ.drop (k + 1)) else illA (stepO lk qk σ[k]).c) := HRR.out.trans (runO_drop lk qk σ k hlt)
          have HFO : Hid (Fits (stepO lk qk σ[k]).ls (stepO lk qk σ[k]).lp) := stepO_fits lk qk σ[k]
          have hsg := HSG.out k hlt
          obtain ⟨W1, hW1⟩ : ∃ W1, W1 = wr.alloc (.cells #[.slice none 0 0, .slice none 0 0, .string { data := #[] }, .int .i64 0] 69) := ⟨_, rfl⟩
          have HP1 : Hid (PutSt w W1 vs vp ls lp gx gn g va6 ca6 vb6 cb6 lk qk lo hi) := by rw [hW1]; exact HPT.out.below (bself _)
          have HY1 : Hid (Box4 W1 wr.heap.size) := by rw [hW1]; exact Sha.row_new wr [.slice none 0 0, .slice none 0 0, .string ByteArray.empty, .int .i64 0] 69
          have hz1 : W1.heap.size = wr.heap.size + 1 := by rw [hW1]; simp
          have HB1 : Hid (Below wr.heap.size wr W1) := by rw [hW1]; exact bself _
          by_cases hkT : k < T
          · have hkTi : (k : Int) < (T : Int) := by omega
            have e1 : σ[k] = (false, ((fi + k : Nat) : Int), pieceN tx k) := hsg.trans (HAW.out k hka hkT)
            rw [e1] at HRD HFO
            have hT2 := HT2.out
            have hks : 64 * k < tx.size := by omega
            have hpz := piece_size tx k
            have hpe := HPC.out k
            obtain ⟨c2, hc2⟩ : ∃ c2, min tx.size (64 * (k + 1)) = c2 := ⟨_, rfl⟩
            rw [hc2] at hpe
            have hc2a : c2 ≤ tx.size := by omega
            have hc2b : 64 * k ≤ c2 := by omega
            obtain ⟨pc, hpc⟩ : ∃ pc, pieceN tx k = pc := ⟨_, rfl⟩
            rw [hpc] at HRD HFO hpz hpe
            have KW : Hid (∀ W, Below W1.heap.size W1 W → Calls Tryz.prog 44 #[.agg #[.slice va6 lk.length ca6, .slice vb6 qk.length cb6], .int .i64 ((fi : Int) + (k : Int)), .string pc] W fun e w' => Told W (stepO lk qk (false, ((fi + k : Nat) : Int), pc)) e w') := fun W hb => by
              have h := specWrite_any (.slice va6 lk.length ca6) (.slice vb6 qk.length cb6) lk qk ((fi + k : Nat) : Int) pc W (HP1.out.below hb).o.strs (HP1.out.below hb).o.pends (by omega) HFK.out.n HFK.out.m HFK.out.t HFK.out.y
              rw [Int.natCast_add] at h ⊢
              exact h
            have KM : Hid (∀ W, Calls Tryz.prog 41 #[.int .i64 (tx.size : Int), .int .i64 (((k : Int) + 1) * 64)] W fun e w' => e = .returned (.int .i64 (c2 : Int)) ∧ W = w') := fun W => specMin_any _ _ _ W (by split <;> omega)
            generalize stepO lk qk (false, ((fi + k : Nat) : Int), pc) = O at *
            obtain ⟨ol, op, ot, oc⟩ := O
            dsimp only at HRD HFO
            clear e1 hsg
            have NB : Hid (Below W1.heap.size W1 W1) := Below.refl _ _
            have hw1 : IntKind.i64.wrap ((fi : Int) + (k : Int)) = (fi : Int) + (k : Int) := IntWalk.i64_in _ ⟨by omega, by omega⟩
            have hw2 : IntKind.i64.wrap ((k : Int) * 64) = (k : Int) * 64 := IntWalk.i64_in _ ⟨by omega, by omega⟩
            have hw3 : IntKind.i64.wrap ((k : Int) + 1) = (k : Int) + 1 := IntWalk.i64_in _ ⟨by omega, by omega⟩
            have hw4 : IntKind.i64.wrap (((k : Int) + 1) * 64) = ((k : Int) + 1) * 64 := IntWalk.i64_in _ ⟨by omega, by omega⟩
            have hws : IntKind.i64.wrap ((1 : Int) - (s : Int)) = (1 : Int) - (s : Int) := IntWalk.i64_in _ ⟨by omega, by omega⟩
            have hsl : ∀ W, (Instr.slice 9 (.string tx) (some (.int .i64 ((k : Int) * 64))) (some (.int .i64 (c2 : Int))) none).run Tryz.prog W = .ok (.string pc) W := fun W => by
              rw [hpe]
              exact slice_text tx (64 * k) c2 hc2b hc2a _ _ (by omega) rfl W
            have hs1a : (k : Int) * 64 ≤ (c2 : Int) := by omega
            have hs2a : (c2 : Int) ≤ (tx.size : Int) := by omega
            clear hpe hpc hc2 hT2
            have KC : Hid (∀ W, Below W1.heap.size W1 W → W.cell? ⟨gn, 0, none⟩ = some (.slice va6 lk.length ca6) ∧ W.cell? ⟨gn, 1, none⟩ = some (.slice vb6 qk.length cb6) ∧ W.cell? ⟨w.heap.size, 0, none⟩ = some vs ∧ W.cell? ⟨w.heap.size, 1, none⟩ = some vp) := fun W hb => ⟨(Box2.cells (HP1.out.below hb).n).1, (Box2.cells (HP1.out.below hb).n).2.1, (Box2.cells (HP1.out.below hb).st.x).1, (Box2.cells (HP1.out.below hb).st.x).2.1⟩
            have KC4 : Hid (∀ W, Below W1.heap.size W1 W → ∀ v0 v1 v2 v3 : Value, ((((W.setCell ⟨wr.heap.size, 0, none⟩ v0).setCell ⟨wr.heap.size, 1, none⟩ v1).setCell ⟨wr.heap.size, 2, none⟩ v2).setCell ⟨wr.heap.size, 3, none⟩ v3).cell? ⟨gn, 0, none⟩ = some (.slice va6 lk.length ca6) ∧ ((((W.setCell ⟨wr.heap.size, 0, none⟩ v0).setCell ⟨wr.heap.size, 1, none⟩ v1).setCell ⟨wr.heap.size, 2, none⟩ v2).setCell ⟨wr.heap.size, 3, none⟩ v3).cell? ⟨gn, 1, none⟩ = some (.slice vb6 qk.length cb6) ∧ ((((W.setCell ⟨wr.heap.size, 0, none⟩ v0).setCell ⟨wr.heap.size, 1, none⟩ v1).setCell ⟨wr.heap.size, 2, none⟩ v2).setCell ⟨wr.heap.size, 3, none⟩ v3).cell? ⟨w.heap.size, 0, none⟩ = some vs ∧ ((((W.setCell ⟨wr.heap.size, 0, none⟩ v0).setCell ⟨wr.heap.size, 1, none⟩ v1).setCell ⟨wr.heap.size, 2, none⟩ v2).setCell ⟨wr.heap.size, 3, none⟩ v3).cell? ⟨w.heap.size, 1, none⟩ = some vp) := fun W hb v0 v1 v2 v3 => by
              have hzw := hb.size
              have h := KC.out W hb
              exact ⟨(cellA_far4 (by omega) (by omega)).trans h.1, (cellA_far4 (by omega) (by omega)).trans h.2.1, (cellA_far4 (by omega) (by omega)).trans h.2.2.1, (cellA_far4 (by omega) (by omega)).trans h.2.2.2⟩
            go_wp2_with fail
            rw [← hW1]
            clear hW1
            go_region_held3 (fun W => W.cell? ⟨gn, 0, none⟩ = some (.slice va6 lk.length ca6) ∧ W.cell? ⟨gn, 1, none⟩ = some (.slice vb6 qk.length cb6) ∧ W.cell? ⟨w.heap.size, 0, none⟩ = some vs ∧ W.cell? ⟨w.heap.size, 1, none⟩ = some vp)
              (first
                | (refine KC.out _ ?_; (repeat' (first | with_reducible exact NB.out | with_reducible apply bD)); done)
                | (refine KC4.out _ ?_ _ _ _ _; (repeat' (first | with_reducible exact NB.out | with_reducible apply bD)); done))
              (first
                | (go_at_call 40; refine (KFI.out _ (HP1.out.below (by repeat' (first | exact NB.out | apply bD))).st).mono ?_; rintro e v1 ⟨rfl, hb⟩; have NB : Hid (Below W1.heap.size W1 v1) := bT (by repeat' (first | exact NB.out | apply bD)) hb; have hzv1 : W1.heap.size ≤ v1.heap.size := NB.out.size; clear hb)
                | (go_at_call 41; refine (KM.out _).mono ?_; rintro e v2 ⟨rfl, rfl⟩)
                | (go_at_call 44; refine (KW.out _ (by repeat' (first | exact NB.out | apply bD))).mono ?_; rintro e u ⟨us, up, rfl, ho, hb⟩; dsimp only at ho; obtain ⟨va7, ca7, vb7, cb7, rfl, rfl⟩ := ho.shape; have hzu : v1.heap.size ≤ u.heap.size := hb.size; have NB : Hid (Below W1.heap.size W1 u) := bT (by repeat' (first | exact NB.out | apply bD)) hb; have HBU2 : Hid (Below W1.heap.size W1 u) := NB.out; have HBU : Hid (Below wr.heap.size wr u) := bT HB1.out NB.out; have HOU : Hid (Own u v1.heap.size u.heap.size (.slice va7 ol.length ca7) (.slice vb7 op.length cb7) ol op) := ho; have hqy : wr.heap.size < u.heap.size := (by omega); have hqn : gn < u.heap.size := (by omega); obtain ⟨y0, y1, y2, y3, yf⟩ := Box4.cells (Sha.row_below HY1.out NB.out (by omega) : Box4 u wr.heap.size); obtain ⟨n0, n1, nf⟩ := Box2.cells (HP1.out.below NB.out).n; clear hb ho))
            by_cases hoc : oc = 0
            · have hob : (oc != 0) = false := by simp [hoc]
              have HR2 : Hid (runO ls lp σ = runO ol op (σ.drop (k + 1))) := by have h := HRD.out; unfold Hid; rw [h]; exact if_pos hoc
              clear hoc
              go_wp2_with fail
              go_roundw
              case rel => exact ⟨k + 1, by go_num, hkn, _, _, _, _, ol, op, _, _, putSt_next HPT.out HBU.out HOU.out (by omega) (by omega) (by omega), HFO.out, HR2.out⟩
              case measure => simp [intOf]; omega
            · have hob : (oc != 0) = true := by simp [hoc]
              have HR2 : Hid (runO ls lp σ = illA oc) := by have h := HRD.out; unfold Hid; rw [h]; exact if_neg hoc
              clear hoc
              go_wp2_with fail
              refine (illA_any oc _).mono ?_
              rintro e v ⟨rfl, hb⟩
              have HST : Hid (SpecSt w v vs vp ls lp) := ((HP1.out.st.below HBU2.out).on (B := w.heap.size + 2) (onlyA_set4.below (Below.refl _ _) (by omega) (fun k hk e => by omega)) (Nat.le_refl _) (by simp)).below hb
              have hzv := HST.out.z
              obtain ⟨r0, r1, r2, r3, r4⟩ := BoxA.cells HST.out.r
              have rf := BoxA.frozen HST.out.r
              clear hb
              go_wp2_with fail
              exact bodyPost_ret (v := outA (.slice none 0 0) (.slice none 0 0) ByteArray.empty 0 oc) (by simp [results, Tryz.results13, go_sem, r0, r1, r2, r3, r4]) rfl (by rw [HR2.out]; exact told_set5 (o := illA oc) (own_zero _ w.heap.size w.heap.size) HST.out.b (Nat.le_refl _) (by omega) (.inr (by omega)) (by omega))
          · have hkTi : ¬ (k : Int) < (T : Int) := by omega
            by_cases hkh : k = T + 1
            · have hkhi : (k : Int) = (T : Int) + 1 := by omega
              have e1 : σ[k] = (false, 0, hd) := hsg.trans (HAH.out k hka hkh)
              rw [e1] at HRD HFO
              have KW : Hid (∀ W, Below W1.heap.size W1 W → Calls Tryz.prog 44 #[.agg #[.slice va6 lk.length ca6, .slice vb6 qk.length cb6], .int .i64 0, .string hd] W fun e w' => Told W (stepO lk qk (false, 0, hd)) e w') := fun W hb => specWrite_any _ _ lk qk 0 hd W (HP1.out.below hb).o.strs (HP1.out.below hb).o.pends (by omega) HFK.out.n HFK.out.m HFK.out.t HFK.out.y
              generalize stepO lk qk (false, 0, hd) = O at *
              obtain ⟨ol, op, ot, oc⟩ := O
              dsimp only at HRD HFO
              clear e1 hsg
              have NB : Hid (Below W1.heap.size W1 W1) := Below.refl _ _
              have hwg : IntKind.i64.wrap (g + 1) = g + 1 := IntWalk.i64_in _ ⟨by omega, by omega⟩
              have hws : IntKind.i64.wrap ((1 : Int) - (s : Int)) = (1 : Int) - (s : Int) := IntWalk.i64_in _ ⟨by omega, by omega⟩
              have KC : Hid (∀ W, Below W1.heap.size W1 W → W.cell? ⟨gn, 0, none⟩ = some (.slice va6 lk.length ca6) ∧ W.cell? ⟨gn, 1, none⟩ = some (.slice vb6 qk.length cb6) ∧ W.cell? ⟨gx, 3, none⟩ = some (.int .i64 g)) := fun W hb => ⟨(Box2.cells (HP1.out.below hb).n).1, (Box2.cells (HP1.out.below hb).n).2.1, (HP1.out.below hb).gc⟩
              have KC4 : Hid (∀ W, Below W1.heap.size W1 W → ∀ v0 v1 v2 v3 : Value, ((((W.setCell ⟨wr.heap.size, 0, none⟩ v0).setCell ⟨wr.heap.size, 1, none⟩ v1).setCell ⟨wr.heap.size, 2, none⟩ v2).setCell ⟨wr.heap.size, 3, none⟩ v3).cell? ⟨gn, 0, none⟩ = some (.slice va6 lk.length ca6) ∧ ((((W.setCell ⟨wr.heap.size, 0, none⟩ v0).setCell ⟨wr.heap.size, 1, none⟩ v1).setCell ⟨wr.heap.size, 2, none⟩ v2).setCell ⟨wr.heap.size, 3, none⟩ v3).cell? ⟨gn, 1, none⟩ = some (.slice vb6 qk.length cb6) ∧ ((((W.setCell ⟨wr.heap.size, 0, none⟩ v0).setCell ⟨wr.heap.size, 1, none⟩ v1).setCell ⟨wr.heap.size, 2, none⟩ v2).setCell ⟨wr.heap.size, 3, none⟩ v3).cell? ⟨gx, 3, none⟩ = some (.int .i64 g)) := fun W hb v0 v1 v2 v3 => by
                have hzw := hb.size
                have h := KC.out W hb
                exact ⟨(cellA_far4 (by omega) (by omega)).trans h.1, (cellA_far4 (by omega) (by omega)).trans h.2.1, (cellA_far4 (by omega) (by omega)).trans h.2.2⟩
              go_wp2_with fail
              rw [← hW1]
              clear hW1
              go_region_held3 (fun W => W.cell? ⟨gn, 0, none⟩ = some (.slice va6 lk.length ca6) ∧ W.cell? ⟨gn, 1, none⟩ = some (.slice vb6 qk.length cb6) ∧ W.cell? ⟨gx, 3, none⟩ = some (.int .i64 g))
                (first
                  | (refine KC.out _ ?_; (repeat' (first | with_reducible exact NB.out | with_reducible apply bD)); done)
                  | (refine KC4.out _ ?_ _ _ _ _; (repeat' (first | with_reducible exact NB.out | with_reducible apply bD)); done))
                (first
                  | (go_at_call 45; refine (KHD.out _).mono ?_; rintro e v1 ⟨rfl, hb⟩; have NB : Hid (Below W1.heap.size W1 v1) := bT (by repeat' (first | exact NB.out | apply bD)) hb; have hzv1 : W1.heap.size ≤ v1.heap.size := NB.out.size; clear hb)
                  | (go_at_call 44; refine (KW.out _ (by repeat' (first | exact NB.out | apply bD))).mono ?_; rintro e u ⟨us, up, rfl, ho, hb⟩; dsimp only at ho; obtain ⟨va7, ca7, vb7, cb7, rfl, rfl⟩ := ho.shape; have hzu : v1.heap.size ≤ u.heap.size := hb.size; have NB : Hid (Below W1.heap.size W1 u) := bT (by repeat' (first | exact NB.out | apply bD)) hb; have HBU2 : Hid (Below W1.heap.size W1 u) := NB.out; have HBU : Hid (Below wr.heap.size wr u) := bT HB1.out NB.out; have HOU : Hid (Own u v1.heap.size u.heap.size (.slice va7 ol.length ca7) (.slice vb7 op.length cb7) ol op) := ho; have hqy : wr.heap.size < u.heap.size := (by omega); have hqn : gn < u.heap.size := (by omega); obtain ⟨y0, y1, y2, y3, yf⟩ := Box4.cells (Sha.row_below HY1.out NB.out (by omega) : Box4 u wr.heap.size); obtain ⟨n0, n1, nf⟩ := Box2.cells (HP1.out.below NB.out).n; clear hb ho))
              by_cases hoc : oc = 0
              · have hob : (oc != 0) = false := by simp [hoc]
                have HR2 : Hid (runO ls lp σ = runO ol op (σ.drop (k + 1))) := by have h := HRD.out; unfold Hid; rw [h]; exact if_pos hoc
                clear hoc
                go_wp2_with fail
                go_roundw
                case rel => exact ⟨k + 1, by go_num, hkn, _, _, _, _, ol, op, _, _, putSt_next HPT.out HBU.out HOU.out (by omega) (by omega) (by omega), HFO.out, HR2.out⟩
                case measure => simp [intOf]; omega
              · have hob : (oc != 0) = true := by simp [hoc]
                have HR2 : Hid (runO ls lp σ = illA oc) := by have h := HRD.out; unfold Hid; rw [h]; exact if_neg hoc
                clear hoc
                go_wp2_with fail
                refine (illA_any oc _).mono ?_
                rintro e v ⟨rfl, hb⟩
                have HST : Hid (SpecSt w v vs vp ls lp) := ((HP1.out.st.below HBU2.out).on (B := w.heap.size + 2) (onlyA_set4.below (Below.refl _ _) (by omega) (fun k hk e => by omega)) (Nat.le_refl _) (by simp)).below hb
                have hzv := HST.out.z
                obtain ⟨r0, r1, r2, r3, r4⟩ := BoxA.cells HST.out.r
                have rf := BoxA.frozen HST.out.r
                clear hb
                go_wp2_with fail
                exact bodyPost_ret (v := outA (.slice none 0 0) (.slice none 0 0) ByteArray.empty 0 oc) (by simp [results, Tryz.results13, go_sem, r0, r1, r2, r3, r4]) rfl (by rw [HR2.out]; exact told_set5 (o := illA oc) (own_zero _ w.heap.size w.heap.size) HST.out.b (Nat.le_refl _) (by omega) (.inr (by omega)) (by omega))
            · have hkhd : decide ((k : Int) = (T : Int) + 1) = false := decide_eq_false (by omega)
              have e1 : σ[k] = (true, 0, ByteArray.empty) := by
                rcases (show k = T ∨ k = T + 2 by omega) with h | h
                · exact hsg.trans (HAF.out k hka h)
                · exact hsg.trans (HAE.out k hka h)
              rw [e1] at HRD HFO
              have K8 : Hid (Calls Tryz.prog 46 #[.agg #[.slice va6 lk.length ca6, .slice vb6 qk.length cb6]] W1 fun e w' => Told W1 (stepO lk qk (true, 0, ByteArray.empty)) e w') := specFlush_any _ _ lk qk W1 HP1.out.o.strs HP1.out.o.pends HFK.out.n HFK.out.m HFK.out.t HFK.out.y
              generalize stepO lk qk (true, 0, ByteArray.empty) = O at *
              obtain ⟨ol, op, ot, oc⟩ := O
              dsimp only at HRD HFO
              clear e1 hsg
              obtain ⟨n0, n1, nf⟩ := Box2.cells HPT.out.n
              go_wp2_with fail
              rw [← hW1]
              clear hW1 n0 n1 nf
              refine K8.out.mono ?_
              rintro e u ⟨us, up, rfl, ho, hb⟩
              dsimp only at ho
              obtain ⟨va7, ca7, vb7, cb7, rfl, rfl⟩ := ho.shape
              have hzu := hb.size
              have HBU : Hid (Below wr.heap.size wr u) := bT HB1.out hb
              have HBU2 : Hid (Below W1.heap.size W1 u) := hb
              have HOU : Hid (Own u W1.heap.size u.heap.size (.slice va7 ol.length ca7) (.slice vb7 op.length cb7) ol op) := ho
              have hqy : wr.heap.size < u.heap.size := by omega
              have hqn : gn < u.heap.size := by omega
              obtain ⟨y0, y1, y2, y3, yf⟩ := Box4.cells (Sha.row_below HY1.out hb (by omega) : Box4 u wr.heap.size)
              obtain ⟨n0, n1, nf⟩ := Box2.cells (HP1.out.below hb).n
              clear hb ho
              by_cases hoc : oc = 0
              · have hob : (oc != 0) = false := by simp [hoc]
                have HR2 : Hid (runO ls lp σ = runO ol op (σ.drop (k + 1))) := by have h := HRD.out; unfold Hid; rw [h]; exact if_pos hoc
                clear hoc
                go_wp2_with fail
                go_roundw
                case rel => exact ⟨k + 1, by go_num, hkn, _, _, _, _, ol, op, _, _, putSt_next HPT.out HBU.out HOU.out (by omega) (by omega) (by omega), HFO.out, HR2.out⟩
                case measure => simp [intOf]; omega
              · have hob : (oc != 0) = true := by simp [hoc]
                have HR2 : Hid (runO ls lp σ = illA oc) := by have h := HRD.out; unfold Hid; rw [h]; exact if_neg hoc
                clear hoc
                go_wp2_with fail
                refine (illA_any oc _).mono ?_
                rintro e v ⟨rfl, hb⟩
                have HST : Hid (SpecSt w v vs vp ls lp) := ((HP1.out.st.below HBU2.out).on (B := w.heap.size + 2) (onlyA_set4.below (Below.refl _ _) (by omega) (fun k hk e => by omega)) (Nat.le_refl _) (by simp)).below hb
                have hzv := HST.out.z
                obtain ⟨r0, r1, r2, r3, r4⟩ := BoxA.cells HST.out.r
                have rf := BoxA.frozen HST.out.r
                clear hb
                go_wp2_with fail
                exact bodyPost_ret (v := outA (.slice none 0 0) (.slice none 0 0) ByteArray.empty 0 oc) (by simp [results, Tryz.results13, go_sem, r0, r1, r2, r3, r4]) rfl (by rw [HR2.out]; exact told_set5 (o := illA oc) (own_zero _ w.heap.size w.heap.size) HST.out.b (Nat.le_refl _) (by omega) (.inr (by omega)) (by omega))
        · have hkN : k = σ.length := by omega
          have HR2 : Hid (runO ls lp σ = ⟨lk, qk, ByteArray.empty, 0, 0⟩) := by unfold Hid; rw [HRR.out]; exact runO_end lk qk σ k (by omega)
          obtain ⟨n0, n1, nf⟩ := Box2.cells HPT.out.n
          obtain ⟨r0, r1, r2, r3, r4⟩ := BoxA.cells HPT.out.st.r
          have rf := BoxA.frozen HPT.out.st.r
          have q1 := HPT.out.h1
          have q2 := HPT.out.h2
          by_cases hk3 : (k : Int) < (T : Int) + 3
          · have hkx : ¬ (k : Int) < x := by omega
            have hkxd : decide ((k : Int) < x) = false := decide_eq_false hkx
            clear hkN hls hlt
            go_wp2_with fail
            exact bodyPost_ret (v := outA (.slice va6 lk.length ca6) (.slice vb6 qk.length cb6) ByteArray.empty 0 0) (by simp [results, Tryz.results13, go_sem, r0, r1, r2, r3, r4]; rfl) rfl (by rw [HR2.out]; exact told_set5 (o := ⟨lk, qk, ByteArray.empty, 0, 0⟩) HPT.out.o HPT.out.st.b (by omega) q2 (.inl (by omega)) (by omega))
          · have hk3d : decide ((k : Int) < (T : Int) + 3) = false := decide_eq_false hk3
            clear hkN hls hlt
            go_wp2_with fail
            exact bodyPost_ret (v := outA (.slice va6 lk.length ca6) (.slice vb6 qk.length cb6) ByteArray.empty 0 0) (by simp [results, Tryz.results13, go_sem, r0, r1, r2, r3, r4]; rfl) rfl (by rw [HR2.out]; exact told_set5 (o := ⟨lk, qk, ByteArray.empty, 0, 0⟩) HPT.out.o HPT.out.st.b (by omega) q2 (.inl (by omega)) (by omega))
  · rw [putAO_code hbig (readAO_form hr) (by decide)]
    rw [hr] at K1
    clear hr
    go_enter Tryz.func13, Tryz.ntmps13
    go_wp2_with (first
      | (go_at_call 36; rw [← hW0]; clear hW0; refine K1.out.mono ?_; rintro e w1 ⟨rfl, hb1⟩; have HS1 : Hid _ := HS0.out.below hb1; clear hb1)
      | (go_at_call 37; refine (illA_any 1 _).mono ?_; rintro e w2 ⟨rfl, hb2⟩; have HS2 : Hid _ := HS1.out.below hb2; have hz := HS2.out.z; obtain ⟨r0, r1, r2, r3, r4⟩ := BoxA.cells HS2.out.r; have rf := BoxA.frozen HS2.out.r; clear hb2))
    exact bodyPost_ret (v := outA (.slice none 0 0) (.slice none 0 0) ByteArray.empty 0 1) (by simp [results, Tryz.results13, go_sem, r0, r1, r2, r3, r4]) rfl (told_set5 (o := illA 1) (own_zero _ w.heap.size w.heap.size) HS2.out.b (Nat.le_refl _) (by omega) (.inr (by omega)) (by omega))
  · rw [putAO_code hbig hO hc]
    rw [hr] at K1
    have KA2 : Hid (∀ W, SpecSt w W vs vp ls lp → Calls Tryz.prog 12 #[.agg #[vs, vp]] W fun e w' => ∃ va ca vb cb, e = .returned (outA (.slice va 0 ca) (.slice vb 0 cb) ByteArray.empty 0 c) ∧ Below W.heap.size W w') := fun W hW => (KA.out W hW).mono fun e w' ⟨us, up, he, ho, hb⟩ => by
      rw [hO] at he ho
      obtain ⟨va, ca, vb, cb, rfl, rfl⟩ := ho.shape
      exact ⟨va, ca, vb, cb, he, hb⟩
    have hcb : (c != 0) = true := by simp [hc]
    clear hr hO hc KA
    go_enter Tryz.func13, Tryz.ntmps13
    go_wp2_with (first
      | (go_at_call 36; rw [← hW0]; clear hW0; refine K1.out.mono ?_; rintro e w1 ⟨rfl, hb1⟩; have HS1 : Hid _ := HS0.out.below hb1; obtain ⟨x0, x1, _⟩ := Box2.cells HS1.out.x; clear hb1)
      | (go_at_call 12; refine (KA2.out _ HS1.out).mono ?_; rintro e w2 ⟨va, ca, vb, cb, rfl, hb2⟩; have HS2 : Hid _ := HS1.out.below hb2; clear hb2 x0 x1)
      | (go_at_call 37; refine (illA_any c _).mono ?_; rintro e w3 ⟨rfl, hb2⟩; have HS3 : Hid _ := (HS2.out.below (bself _)).below hb2; have hz := HS3.out.z; obtain ⟨r0, r1, r2, r3, r4⟩ := BoxA.cells HS3.out.r; have rf := BoxA.frozen HS3.out.r; clear hb2))
    exact bodyPost_ret (v := outA (.slice none 0 0) (.slice none 0 0) ByteArray.empty 0 c) (by simp [results, Tryz.results13, go_sem, r0, r1, r2, r3, r4]) rfl (told_set5 (o := illA c) (own_zero _ w.heap.size w.heap.size) HS3.out.b (Nat.le_refl _) (by omega) (.inr (by omega)) (by omega))
end Go.Proofs.YtkigmpeanllimaaGreatDoor.Disk
