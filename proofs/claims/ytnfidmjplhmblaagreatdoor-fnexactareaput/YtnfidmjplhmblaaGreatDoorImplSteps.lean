/- The program's steps on a disk. -/
import Derived.Test.YtnfidmjplhmblaaGreatDoorTextsH
import Derived.Test.YtnfidmjplhmblaaGreatDoorImplWrite
import Derived.Test.YtnfidmjplhmblaaGreatDoorImplDisk
namespace Go.Proofs.YtnfidmjplhmblaaGreatDoor.Disk
open Go.RowKit Go.Proofs.YtnfidmjplhmblaaGreatDoor.Mem Go.Proofs.YtnfidmjplhmblaaGreatDoor.Harn Go.Proofs.YtnfidmjplhmblaaGreatDoor.DiskP

theorem told_set4 {w W w1 : World} {o : Out} {us up : Value} {g : Nat} (ho : Own w1 W.heap.size w1.heap.size us up o.ls o.lp) (hB : Below w.heap.size w W) (hb : Below W.heap.size W w1) (hg : w.heap.size ≤ g) (hgW : g < W.heap.size) : Told w o (.returned (outV us up o.t o.c)) ((((w1.setCell ⟨g, 0, none⟩ us).setCell ⟨g, 1, none⟩ up).setCell ⟨g, 2, none⟩ (.string o.t)).setCell ⟨g, 3, none⟩ (.int .i64 o.c)) :=
  ⟨us, up, rfl, (((ho.setCell (a := ⟨g, 0, none⟩) (.inl hgW) us).setCell (a := ⟨g, 1, none⟩) (.inl hgW) up).setCell (a := ⟨g, 2, none⟩) (.inl hgW) (.string o.t)).setCell (a := ⟨g, 3, none⟩) (.inl hgW) (.int .i64 o.c) |>.wide hB.size (by simp), ((((bT hB hb).setCell (p := ⟨g, 0, none⟩) hg us).setCell (p := ⟨g, 1, none⟩) hg up).setCell (p := ⟨g, 2, none⟩) hg (.string o.t)).setCell (p := ⟨g, 3, none⟩) hg (.int .i64 o.c)⟩

set_option maxRecDepth 100000 in
set_option maxHeartbeats 2000000 in
theorem implOn_any (y : Step) (vs vp : Value) (ls : List ByteArray) (lp : List (Int × ByteArray)) (w : World) (hs : Strs w vs ls) (hp : Pends w vp lp) (hf : Fits ls lp) (hy : y.2.2.size ≤ 1048576) :
    Calls Tryz.prog 55 #[.agg #[.bool y.1, .int .i64 y.2.1, .string y.2.2], .agg #[vs, vp]] w fun e w' => Told w (stepO ls lp y) e w' := by
  obtain ⟨f, x, s⟩ := y
  simp only at hy
  obtain ⟨W0, hW0⟩ : ∃ W0, W0 = ((w.alloc (.cells #[.bool f, .int .i64 x, .string s] 93)).alloc (.cells #[vs, vp] 29)).alloc (.cells #[.slice none 0 0, .slice none 0 0, .string { data := #[] }, .int .i64 0] 49) := ⟨_, rfl⟩
  have HB0 : Hid (Below w.heap.size w W0) := by rw [hW0]; exact bA (bA (bself _) _) _
  have HZ : Hid (W0.heap.size = w.heap.size + 3) := by rw [hW0]; simp [Hid]
  have HR : Hid (HasRow W0 (w.heap.size + 2) [.slice none 0 0, .slice none 0 0, .string { data := #[] }, .int .i64 0] 49) := by rw [hW0]; exact Sha.row_new_at ((w.alloc _).alloc _) [.slice none 0 0, .slice none 0 0, .string { data := #[] }, .int .i64 0] 49 _ (by simp)
  have HS : Hid (Strs W0 vs ls) := hs.below HB0.out
  have HP : Hid (Pends W0 vp lp) := hp.below HB0.out
  have HF : Hid (Fits ls lp) := hf
  clear hs hp hf
  cases f
  · have K : Hid (Calls Tryz.prog 74 #[.agg #[vs, vp], .int .i64 x, .string s] W0 fun e w' => Told W0 (stepO ls lp (false, x, s)) e w') := implWrite_any vs vp ls lp x s W0 HS.out HP.out hy HF.out.n HF.out.m HF.out.t HF.out.y
    generalize stepO ls lp (false, x, s) = o at *
    go_enter Tryz.func55, Tryz.ntmps55
    go_wp2_with (go_at_call 74; rw [← hW0]; clear hW0; refine K.out.mono ?_; rintro e w1 ⟨us, up, rfl, ho, hb⟩; obtain ⟨va, ca, vb, cb, rfl, rfl⟩ := ho.shape; have HO : Hid _ := ho; have HB : Hid _ := hb; have HR1 : Hid _ := Sha.row_below HR.out hb (by have := HZ.out; omega); clear ho hb; obtain ⟨x0, x1, x2, x3⟩ := BoxO.cells HR1.out; have xf := Mem.frozen_of_row HR1.out)
    exact bodyPost_ret (v := outV (.slice va o.ls.length ca) (.slice vb o.lp.length cb) o.t o.c) (by simp [results, Tryz.results55, go_sem, x0, x1, x2, x3]) rfl (told_set4 HO.out HB0.out HB.out (by omega) (by have := HZ.out; omega))
  · have K : Hid (Calls Tryz.prog 73 #[.agg #[vs, vp]] W0 fun e w' => Told W0 (stepO ls lp (true, x, s)) e w') := implFlush_any vs vp ls lp W0 HS.out HP.out HF.out.n HF.out.m HF.out.t HF.out.y
    generalize stepO ls lp (true, x, s) = o at *
    go_enter Tryz.func55, Tryz.ntmps55
    go_wp2_with (go_at_call 73; rw [← hW0]; clear hW0; refine K.out.mono ?_; rintro e w1 ⟨us, up, rfl, ho, hb⟩; obtain ⟨va, ca, vb, cb, rfl, rfl⟩ := ho.shape; have HO : Hid _ := ho; have HB : Hid _ := hb; have HR1 : Hid _ := Sha.row_below HR.out hb (by have := HZ.out; omega); clear ho hb; obtain ⟨x0, x1, x2, x3⟩ := BoxO.cells HR1.out; have xf := Mem.frozen_of_row HR1.out)
    exact bodyPost_ret (v := outV (.slice va o.ls.length ca) (.slice vb o.lp.length cb) o.t o.c) (by simp [results, Tryz.results55, go_sem, x0, x1, x2, x3]) rfl (told_set4 HO.out HB0.out HB.out (by omega) (by have := HZ.out; omega))

theorem steps2 {W : World} {b : Nat} {h : ByteArray} (hr : HasRow W b [.bool false, .int .i64 0, .string h, .bool true, .int .i64 0, .string ByteArray.empty] 93) : Steps W (.slice (some ⟨b, 0, none⟩) 2 2) [(false, 0, h), (true, 0, ByteArray.empty)] := by
  refine ⟨some ⟨b, 0, none⟩, 2, rfl, fun j hj => ⟨b, 0, rfl, ?_⟩⟩
  match j, hj with
  | 0, _ => exact ⟨Mem.cell_of_row hr 0, Mem.cell_of_row hr 1, Mem.cell_of_row hr 2⟩
  | 1, _ => exact ⟨Mem.cell_of_row hr 3, Mem.cell_of_row hr 4, Mem.cell_of_row hr 5⟩

set_option maxRecDepth 100000 in
set_option maxHeartbeats 2000000 in
theorem headSteps_any (g s n : Int) (w : World) (hg1 : -9223372036854775808 ≤ g) (hg2 : g ≤ 9223372036854775807) (hs1 : -9223372036854775808 ≤ s) (hs2 : s ≤ 9223372036854775807) (hn1 : -9223372036854775808 ≤ n) (hn2 : n ≤ 9223372036854775807) :
    Calls Tryz.prog 32 #[.agg #[.int .i64 g, .int .i64 s, .int .i64 n]] w fun e w' => ∃ v, e = .returned v ∧ Steps w' v [(false, 0, headB g s n), (true, 0, ByteArray.empty)] ∧ Below w.heap.size w w' := by
  have K : Hid (∀ W, Calls Tryz.prog 53 #[.agg #[.int .i64 g, .int .i64 s, .int .i64 n]] W fun e w' => e = .returned (.string (headB g s n)) ∧ Below W.heap.size W w') := fun W => implSealed_any g s n W hg1 hg2 hs1 hs2 hn1 hn2
  have HB0 : Hid (Below w.heap.size w (w.alloc (.cells #[.int .i64 g, .int .i64 s, .int .i64 n] 58))) := bself _
  generalize headB g s n = hd at *
  go_enter Tryz.func32, Tryz.ntmps32
  go_wp2_with (go_at_call 53; refine (K.out _).mono ?_; rintro e w1 ⟨rfl, hb⟩; have HB : Hid _ := hb; clear hb)
  go_ret
  exact ⟨_, rfl, steps2 (Sha.row_new w1 [.bool false, .int .i64 0, .string hd, .bool true, .int .i64 0, .string ByteArray.empty] 93), bA (bT HB0.out HB.out) _⟩

/-- What the round of steps keeps: the disk as it is now, in a box of its own; the box of the answer. -/
structure TakeSt (w W : World) (gn gr : Nat) (va : Option Addr) (ca : Nat) (vb : Option Addr) (cb : Nat) (ls : List ByteArray) (lp : List (Int × ByteArray)) (lo hi : Nat) : Prop where
  b : Below w.heap.size w W
  n : Box2 W gn (.slice va ls.length ca) (.slice vb lp.length cb)
  r : BoxA W gr (.slice none 0 0) (.slice none 0 0) ByteArray.empty 0 0
  o : Own W lo hi (.slice va ls.length ca) (.slice vb lp.length cb) ls lp
  h1 : w.heap.size ≤ lo
  h2 : hi ≤ W.heap.size
  h3 : gn < lo ∨ hi ≤ gn
  h4 : gr < lo ∨ hi ≤ gr
  h5 : gn < W.heap.size
  h6 : gr < W.heap.size
  h7 : w.heap.size ≤ gn
  h8 : w.heap.size ≤ gr
  h9 : gn ≠ gr

/-- The first k steps were taken. -/
def TakeRel (w : World) (gn gr : Nat) (ls : List ByteArray) (lp : List (Int × ByteArray)) (σ : List Step) (k : Nat) (W : World) : Prop := ∃ va ca vb cb lk qk lo hi, TakeSt w W gn gr va ca vb cb lk qk lo hi ∧ Fits lk qk ∧ runO ls lp σ = runO lk qk (σ.drop k)
theorem takeSt_next {w W w2 : World} {gn gr : Nat} {va va2 : Option Addr} {ca ca2 : Nat} {vb vb2 : Option Addr} {cb cb2 : Nat} {ls l2 : List ByteArray} {lp p2 : List (Int × ByteArray)} {lo hi W9 : Nat} {x : Obj} (h : TakeSt w W gn gr va ca vb cb ls lp lo hi) (hb : Below W.heap.size W w2) (ho : Own w2 W9 w2.heap.size (.slice va2 l2.length ca2) (.slice vb2 p2.length cb2) l2 p2) (h9 : W.heap.size ≤ W9) :
    TakeSt w (((w2.setCell ⟨gn, 0, none⟩ (.slice va2 l2.length ca2)).setCell ⟨gn, 1, none⟩ (.slice vb2 p2.length cb2)).alloc x) gn gr va2 ca2 vb2 cb2 l2 p2 W9 w2.heap.size := by
  have hz := hb.size
  have h5 := h.h5
  have h6 := h.h6
  have h7 := h.h7
  have hq := h.b.size
  refine ⟨?_, Sha.row_alloc (box2_set (h.n.below hb h.h5)) _, ?_, ?_, by omega, by simp, by omega, by omega, by simp; omega, by simp; omega, h.h7, h.h8, h.h9⟩
  · exact bA (((bT h.b hb).setCell (p := ⟨gn, 0, none⟩) h7 _).setCell (p := ⟨gn, 1, none⟩) h7 _) _
  · exact BoxA.alloc (BoxA.only (BoxA.below h.r hb h6) onlyA_set2 (fun e => h.h9 e.symm)) _
  · exact (ho.only onlyA_set2 (fun k h1 _ e => by omega)).below (bself x)
theorem told_set5 {w w2 : World} {o : AOut} {us up : Value} {g lo hi : Nat} (ho : Own w2 lo hi us up o.ls o.lp) (hb : Below w.heap.size w w2) (h1 : w.heap.size ≤ lo) (h2 : hi ≤ w2.heap.size) (hg : g < lo ∨ hi ≤ g) (h8 : w.heap.size ≤ g) : ToldA w o (.returned (outA us up o.t o.g o.c)) (((((w2.setCell ⟨g, 0, none⟩ us).setCell ⟨g, 1, none⟩ up).setCell ⟨g, 2, none⟩ (.string o.t)).setCell ⟨g, 3, none⟩ (.int .i64 o.g)).setCell ⟨g, 4, none⟩ (.int .i64 o.c)) :=
  ⟨us, up, rfl, (ho.only onlyA_set5 (fun k h3 h4 e => by omega)).wide h1 (by simp; omega), onlyA_set5.below hb hb.size (fun k h3 e => by omega)⟩

theorem ToldA.alloc {w w2 : World} {o : AOut} {e : Ending} (h : ToldA w o e w2) (x : Obj) : ToldA w o e (w2.alloc x) := by
  obtain ⟨us, up, h1, h2, h3⟩ := h
  exact ⟨us, up, h1, (h2.below (bself x)).wide (Nat.le_refl _) (by simp), bA h3 x⟩

theorem Step.at {W : World} {a : Option Addr} {cap : Nat} {l : List Step} (h : Steps W (.slice a l.length cap) l) (j : Nat) (hj : j < l.length) : ∃ b o, a = some ⟨b, o, none⟩ ∧ W.cell? ⟨b, o + j * 3, none⟩ = some (.bool l[j].1) ∧ W.cell? ⟨b, o + j * 3 + 1, none⟩ = some (.int .i64 l[j].2.1) ∧ W.cell? ⟨b, o + j * 3 + 2, none⟩ = some (.string l[j].2.2) := by
  obtain ⟨a', c', hv, hc⟩ := h
  cases hv
  exact hc j hj

set_option maxRecDepth 100000 in
set_option maxHeartbeats 4000000 in
theorem takeSteps_any (vs vp v : Value) (ls : List ByteArray) (lp : List (Int × ByteArray)) (σ : List Step) (w : World) (hs : Strs w vs ls) (hp : Pends w vp lp) (hf : Fits ls lp) (hv : Steps w v σ) (hl : σ.length ≤ 100000) (hσ : ∀ y ∈ σ, y.2.2.size ≤ 1048576) :
    Calls Tryz.prog 33 #[.agg #[vs, vp], v] w fun e w' => ToldA w (runO ls lp σ) e w' := by
  obtain ⟨W0, hW0⟩ : ∃ W0, W0 = (w.alloc (.cells #[vs, vp] 29)).alloc (.cells #[.slice none 0 0, .slice none 0 0, .string { data := #[] }, .int .i64 0, .int .i64 0] 31) := ⟨_, rfl⟩
  have HB0 : Hid (Below w.heap.size w W0) := by rw [hW0]; exact bA (bself _) _
  have HZ : Hid (W0.heap.size = w.heap.size + 2) := by rw [hW0]; simp [Hid]
  have HR : Hid (BoxA W0 (w.heap.size + 1) (.slice none 0 0) (.slice none 0 0) ByteArray.empty 0 0) := by rw [hW0]; exact Sha.row_new_at (w.alloc _) [.slice none 0 0, .slice none 0 0, .string ByteArray.empty, .int .i64 0, .int .i64 0] 31 _ (by simp)
  have HS : Hid (Strs W0 vs ls) := hs.below HB0.out
  have HP : Hid (Pends W0 vp lp) := hp.below HB0.out
  have HF : Hid (Fits ls lp) := hf
  obtain ⟨a, cap, rfl, hvv⟩ := id hv
  clear hvv
  have HV : Hid (Steps w (.slice a σ.length cap) σ) := hv
  have HSZ : Hid (∀ y ∈ σ, y.2.2.size ≤ 1048576) := hσ
  clear hs hp hf hv hσ
  go_enter Tryz.func33, Tryz.ntmps33
  go_wp2_with fail
  rw [← hW0]
  clear hW0
  refine (copyDisk_any vs vp ls lp W0 HS.out HP.out HF.out.n HF.out.m HF.out.t2 HF.out.y2).mono ?_
  rintro e w1 ⟨us, up, rfl, ho, hb⟩
  obtain ⟨va, ca, vb, cb, rfl, rfl⟩ := ho.shape
  have hz0 := HZ.out
  have hz1 := hb.size
  have HT : Hid (TakeSt w (w1.alloc (.cells #[.slice va ls.length ca, .slice vb lp.length cb] 29)) w1.heap.size (w.heap.size + 1) va ca vb cb ls lp W0.heap.size w1.heap.size) := ⟨bA (bT HB0.out hb) _, box2_at w1 _ _, BoxA.alloc (BoxA.below HR.out hb (by omega)) _, ho.below (bself _), by omega, by simp, by omega, by omega, by simp, by simp; omega, by omega, by omega, by omega⟩
  obtain ⟨W1, hW1⟩ : ∃ W1, W1 = w1.alloc (.cells #[.slice va ls.length ca, .slice vb lp.length cb] 29) := ⟨_, rfl⟩
  rw [← hW1] at HT
  have HF1 : Hid (Fits ls lp) := HF.out
  clear ho hb HB0 HR HS HP HF
  go_wp2_with fail
  rw [← hW1]
  clear hW1
  generalize w1.heap.size = gn at *
  go_loopw [13] (fun i W => ∃ k : Nat, k ≤ σ.length ∧ i = .int .i64 k ∧ TakeRel w gn (w.heap.size + 1) ls lp σ k W) (fun i _ => σ.length - (intOf i).toNat)
  case atStart => exact ⟨0, by omega, rfl, va, ca, vb, cb, ls, lp, _, _, HT.out, HF1.out, rfl⟩
  case round =>
    obtain ⟨k, hk, rfl, va, ca, vb, cb, lk, qk, lo, hi, hT, hF, hR⟩ := hrel
    clear HT HF1
    have HT : Hid _ := hT
    have HF : Hid _ := hF
    have h5 := hT.h5
    have h6 := hT.h6
    obtain ⟨n0, n1, nf⟩ := Box2.cells hT.n
    obtain ⟨r0, r1, r2, r3, r4⟩ := BoxA.cells hT.r
    have rf := BoxA.frozen hT.r
    clear hT hF
    by_cases hlt : k < σ.length
    · have hlt2 : (k : Int) < (σ.length : Int) := by omega
      obtain ⟨sb, so, rfl, s0, s1, s2⟩ := Step.at (HV.out.below HT.out.b) k hlt
      have HD : Hid _ := runO_drop lk qk σ k hlt
      have hys := HSZ.out σ[k] (List.getElem_mem hlt)
      have HFO : Hid _ := stepO_fits lk qk σ[k]
      have K : Hid (∀ W1, Below _ _ W1 → Calls Tryz.prog 55 #[.agg #[.bool σ[k].1, .int .i64 σ[k].2.1, .string σ[k].2.2], .agg #[.slice va lk.length ca, .slice vb qk.length cb]] W1 fun e w' => Told W1 (stepO lk qk σ[k]) e w') := fun W1 hb => implOn_any σ[k] _ _ lk qk W1 (HT.out.o.strs.below hb) (HT.out.o.pends.below hb) HF.out hys
      have HRD : Hid (runO ls lp σ = if (stepO lk qk σ[k]).c = 0 then runO (stepO lk qk σ[k]).ls (stepO lk qk σ[k]).lp (σ.drop (k + 1)) else illA (stepO lk qk σ[k]).c) := hR.trans HD.out
      clear hR HD hys
      generalize stepO lk qk σ[k] = O at *
      obtain ⟨ol, op, ot, oc⟩ := O
      generalize σ[k].1 = f at *
      generalize σ[k].2.1 = x at *
      generalize σ[k].2.2 = s at *
      go_wp2_with fail
      refine (K.out _ (bself _)).mono ?_
      rintro e w2 ⟨us, up, rfl, ho, hb⟩
      dsimp only at ho
      obtain ⟨va2, ca2, vb2, cb2, rfl, rfl⟩ := ho.shape
      have hbb := bT (bself _) hb
      have hz2 := hb.size
      simp only [World.size_alloc] at hz2
      have hq1 : gn < w2.heap.size := by omega
      have hq3 : w.heap.size + 1 < w2.heap.size := by omega
      obtain ⟨m0, m1, mf⟩ := Box2.cells (Box2.below HT.out.n hbb h5)
      obtain ⟨t0, t1, t2, t3, t4⟩ := BoxA.cells (BoxA.below HT.out.r hbb h6)
      have tf := BoxA.frozen (BoxA.below HT.out.r hbb h6)
      have HO : Hid _ := ho
      have HBB : Hid _ := hbb
      clear ho hb hbb n0 n1 nf r0 r1 r2 r3 r4 rf
      by_cases hc : oc = 0
      · have hcb : (oc != 0) = false := by simp [hc]
        have HR2 : Hid (runO ls lp σ = runO ol op (σ.drop (k + 1))) := by have h := HRD.out; unfold Hid; rw [h]; exact if_pos hc
        clear hc
        go_wp2
        go_roundw
        case rel => exact ⟨k + 1, by omega, by go_num, _, _, _, _, ol, op, _, _, takeSt_next HT.out HBB.out HO.out (by simp), HFO.out, HR2.out⟩
        case measure => simp [intOf]; omega
      · have hcb : (oc != 0) = true := by simp [hc]
        have HR2 : Hid (runO ls lp σ = illA oc) := by have h := HRD.out; unfold Hid; rw [h]; exact if_neg hc
        go_wp2_with fail
        exact bodyPost_ret (v := outA (.slice none 0 0) (.slice none 0 0) ByteArray.empty 0 oc) (by simp [results, Tryz.results33, go_sem, t0, t1, t2, t3, t4, hq3]; rfl) rfl (by rw [HR2.out]; exact ToldA.alloc (told_set5 (o := illA oc) (own_zero _ _ _) (bT HT.out.b HBB.out) (Nat.le_refl _) (Nat.le_of_lt hq3) (.inr (by omega)) (by omega)) _)
    · have e : k = σ.length := by omega
      subst e
      have HR2 : Hid (runO ls lp σ = ⟨lk, qk, ByteArray.empty, 0, 0⟩) := by unfold Hid; rw [hR]; exact runO_end lk qk σ _ (Nat.le_refl _)
      clear hR
      go_wp2_with fail
      exact bodyPost_ret (v := outA (.slice va lk.length ca) (.slice vb qk.length cb) ByteArray.empty 0 0) (by simp [results, Tryz.results33, go_sem, r0, r1, r2, r3, r4]; rfl) rfl (by rw [HR2.out]; exact told_set5 (o := ⟨lk, qk, ByteArray.empty, 0, 0⟩) HT.out.o HT.out.b HT.out.h1 HT.out.h2 HT.out.h4 HT.out.h8)
end Go.Proofs.YtnfidmjplhmblaaGreatDoor.Disk
