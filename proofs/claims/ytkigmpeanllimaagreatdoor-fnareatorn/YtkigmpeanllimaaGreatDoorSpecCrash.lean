/- What the model's DiskCrash answers. -/
import Derived.Test.YtkigmpeanllimaaGreatDoorTextsF
namespace Go.Proofs.YtkigmpeanllimaaGreatDoor.Disk
open Go.RowKit Go.Proofs.YtkigmpeanllimaaGreatDoor.Mem Go.Proofs.YtkigmpeanllimaaGreatDoor.Harn Go.Proofs.YtkigmpeanllimaaGreatDoor.DiskP

set_option maxRecDepth 100000 in
set_option maxHeartbeats 2000000 in
theorem specCrash_any (vs vp vk : Value) (ls : List ByteArray) (lp : List (Int × ByteArray)) (kp : List Int) (w : World) (hs : Strs w vs ls) (hp : Pends w vp lp) (hk : Ints w vk kp) (hkn : kp.length ≤ 1100000) (hf : Fits ls lp) :
    Calls Tryz.prog 54 #[.agg #[vs, vp], vk] w fun e w' => ToldD w (crashO ls lp kp).1 (crashO ls lp kp).2 e w' := by
  obtain ⟨W0, hW0⟩ : ∃ W0, W0 = (w.alloc (.cells #[vs, vp] 26)).alloc (.cells #[.slice none 0 0, .slice none 0 0] 26) := ⟨_, rfl⟩
  have HB0 : Hid (Below w.heap.size w W0) := by rw [hW0]; exact ((Below.refl _ _).alloc (Nat.le_refl _) _).alloc (by simp) _
  have HX0 : Hid (Box2 W0 w.heap.size vs vp) := by rw [hW0]; exact box2_new w vs vp _
  have HY0 : Hid (Box2 W0 (w.heap.size + 1) (.slice none 0 0) (.slice none 0 0)) := by rw [hW0]; exact Sha.row_new_at (w.alloc _) [.slice none 0 0, .slice none 0 0] 26 _ (by simp)
  have HZ0 : Hid (W0.heap.size = w.heap.size + 2) := by rw [hW0]; simp [Hid]
  have HK : Hid (Calls Tryz.prog 36 #[.agg #[vs, vp]] W0 fun e w' => e = .returned (.bool (rightB ls lp)) ∧ Below W0.heap.size W0 w') := specRight_any vs vp ls lp _ (Strs.below hs HB0.out) (Pends.below hp HB0.out) hf.n hf.m hf.t hf.y
  have HS : Hid (Strs w vs ls) := hs
  have HP : Hid (Pends w vp lp) := hp
  have HF : Hid (Fits ls lp) := hf
  clear hs hp hf
  obtain ⟨ka, kc, rfl, hkc⟩ := hk
  have HKC : Hid (∀ j (h : j < kp.length), ∃ b o, ka = some ⟨b, o, none⟩ ∧ w.cell? ⟨b, o + j, none⟩ = some (.int .i64 kp[j])) := hkc
  clear hkc
  by_cases s1 : 400 < kp.length
  · rw [crashO_size s1]
    go_enter Tryz.func54, Tryz.ntmps54
    go_wp2_with fail
    refine bodyPost_ret (v := .agg #[.slice none 0 0, .slice none 0 0]) (by simp [results, Tryz.results54, go_sem]) rfl ⟨_, _, rfl, own_zero _ _ _, ?_⟩
    repeat' (first | exact ((Below.refl _ _).alloc (Nat.le_refl _) _).alloc (by simp) _ | refine Below.setCell ?_ (by simp) _)
  have hd4 : decide (400 < (kp.length : Int)) = false := decide_eq_false (by omega)
  cases hr : rightB ls lp with
  | false =>
    rw [hr] at HK
    rw [crashO_form s1 hr]
    clear hr
    go_enter Tryz.func54, Tryz.ntmps54
    go_wp2_with fail
    rw [← hW0]
    refine HK.out.mono ?_
    rintro e w1 ⟨rfl, hb1⟩
    have hz1 : w.heap.size + 2 ≤ w1.heap.size := by have := hb1.size; have := HZ0.out; omega
    have HB1 : Hid (Below w.heap.size w w1) := bT HB0.out hb1
    have HX1 : Hid _ := Box2.below HX0.out hb1 (by have := HZ0.out; omega)
    have HY1 : Hid _ := Box2.below HY0.out hb1 (by have := HZ0.out; omega)
    clear hb1 hW0
    obtain ⟨c0, c1, _⟩ := Box2.cells HX1.out
    go_wp2_with (go_at_call 42; refine (copy_any _ _ ls lp _ (Strs.below HS.out HB1.out) (Pends.below HP.out HB1.out) HF.out.n HF.out.m).mono ?_; rintro e w2 ⟨gs, gp, cs, cp, rfl, x1, x2, x3, x4, x5, x6, x7, hb2, _⟩; have HO2 : Hid (Own w2 w1.heap.size w2.heap.size (.slice (some ⟨gs, 0, none⟩) ls.length cs) (.slice (some ⟨gp, 0, none⟩) lp.length cp) ls lp) := own_mk x1 x2 x3 x6 x4 x7 x5; have HB2 : Hid (Below w.heap.size w w2) := bT HB1.out hb2; have hz2 := hb2.size; obtain ⟨m0, m1, mf⟩ := (Box2.below HY1.out hb2 (by omega)).cells; clear x1 x2 hb2 c0 c1)
    refine bodyPost_ret (v := .agg #[.slice (some ⟨gs, 0, none⟩) ls.length cs, .slice (some ⟨gp, 0, none⟩) lp.length cp]) (by simp [results, Tryz.results54, go_sem, m0, m1]) rfl ⟨_, _, rfl, ?_, ?_⟩
    · refine Own.wide (lo := w1.heap.size) (hi := w2.heap.size) ?_ (by omega) (by simp)
      exact Own.setCell (Own.setCell HO2.out (.inl (by simp; omega)) _) (.inl (by simp; omega)) _
    · exact (HB2.out.setCell (p := ⟨w.heap.size + 1, 0, none⟩) (by simp) _).setCell (p := ⟨w.heap.size + 1, 1, none⟩) (by simp) _
  | true =>
    obtain ⟨r1, r2, r3, r4, r5, r6, r7⟩ := right_pends hr
    have R1 : Hid (∀ y ∈ lp, 0 ≤ y.1 ∧ y.1 < ls.length) := fun y hy => by have := ((right_iff ls lp).1 hr).2.2.2.2 y hy; unfold okP at this; omega
    rw [hr] at HK
    rw [crashO_ok s1 hr]
    clear hr r1 r2 r3 r7
    go_enter Tryz.func54, Tryz.ntmps54
    go_wp2_with fail
    rw [← hW0]
    refine HK.out.mono ?_
    rintro e w1 ⟨rfl, hb1⟩
    have hz1 : w.heap.size + 2 ≤ w1.heap.size := by have := hb1.size; have := HZ0.out; omega
    have HB1 : Hid (Below w.heap.size w w1) := bT HB0.out hb1
    have HX1 : Hid _ := Box2.below HX0.out hb1 (by have := HZ0.out; omega)
    have HY1 : Hid _ := Box2.below HY0.out hb1 (by have := HZ0.out; omega)
    have HX1' : Hid (Box2 (w1.alloc (.cells #[] 9)) w.heap.size vs vp) := Sha.row_alloc HX1.out _
    clear hb1 hW0
    obtain ⟨c0, c1, _⟩ := Box2.cells HX1'.out
    go_wp2_with (at_builtin; refine wp_strs rfl _ _ rfl w1.heap.size vs ls rfl rfl (Strs.below HS.out (bA HB1.out _)) HF.out.n (by simp) ?_; intro g cap w2 hs2 hg2 hl2 hb2; simp at hg2; have hz2 := hb2.size; simp at hz2; have HS2 : Hid _ := hs2; have HB2 : Hid (Below w.heap.size w w2) := bT (bA HB1.out _) hb2; have HX2 : Hid _ := Box2.below HX1'.out hb2 (by simp; omega); have HY2 : Hid _ := Box2.below (Sha.row_alloc HY1.out _) hb2 (by simp; omega); clear hs2 hb2)
    clear c0 c1
    obtain ⟨a2, cap2, rfl, hc2⟩ := HP.out
    have HC : Hid (∀ j (h : j < lp.length), ∃ b o, a2 = some ⟨b, o, none⟩ ∧ w.cell? ⟨b, o + j * 2, none⟩ = some (.int .i64 lp[j].1) ∧ w.cell? ⟨b, o + j * 2 + 1, none⟩ = some (.string lp[j].2)) := hc2
    clear hc2
    have HG : Hid (w1.heap.size ≤ g) := by unfold Hid; omega
    go_loopw [6] (fun i wr => ∃ k : Nat, k ≤ lp.length ∧ i = .int .i64 k ∧ StrsAt wr g 0 (flushD ls (keptTo lp kp k)) ∧ Below w.heap.size w wr ∧ w2.heap.size + 1 ≤ wr.heap.size ∧ Box2 wr w.heap.size vs (.slice a2 lp.length cap2) ∧ Box2 wr (w.heap.size + 1) (.slice none 0 0) (.slice none 0 0) ∧ Box2 wr w2.heap.size (.slice (some ⟨g, 0, none⟩) ls.length cap) (.slice none 0 0)) (fun i _ => lp.length - (intOf i).toNat)
    case atStart =>
      have hq : Below w2.heap.size w2 (w2.alloc (.cells #[.slice (some ⟨g, 0, none⟩) ls.length cap, .slice none 0 0] 26)) := (Below.refl _ _).alloc (Nat.le_refl _) _
      exact ⟨0, by omega, rfl, StrsAt.below HS2.out hq, bA HB2.out _, by simp, Box2.below HX2.out hq (by omega), Box2.below HY2.out hq (by omega), Sha.row_new w2 [.slice (some ⟨g, 0, none⟩) ls.length cap, .slice none 0 0] 26⟩
    case round =>
      clear HS2 HB2 HX2 HY2 HX1 HY1 HX1' HB1 HX0 HY0 HZ0
      obtain ⟨k, hk, rfl, hst, hbel, hsz, hx, hy, ho⟩ := hrel
      have hgk := HG.out
      by_cases hlt : k < lp.length
      · obtain ⟨b, o, rfl, d1, d2⟩ := HC.out k hlt
        have c1 : wr.cell? ⟨b, o + k * 2, none⟩ = _ := (hbel.cell (World.block_lt_of_cell? w _ d1)).trans d1
        have c2 : wr.cell? ⟨b, o + k * 2 + 1, none⟩ = _ := (hbel.cell (World.block_lt_of_cell? w _ d2)).trans d2
        obtain ⟨_, z1, _⟩ := hx.cells
        have p0 : (0 : Int) ≤ (k : Int) := by omega
        have p1 : (k : Int) < (lp.length : Int) := by omega
        by_cases hin : k < kp.length
        · obtain ⟨b3, o3, rfl, d3⟩ := HKC.out k hin
          have c3 : wr.cell? ⟨b3, o3 + k, none⟩ = some (.int .i64 kp[k]) := (hbel.cell (World.block_lt_of_cell? w _ d3)).trans d3
          have p2 : (k : Int) < (kp.length : Int) := by omega
          have hd5 : decide ((k : Int) < (kp.length : Int)) = true := decide_eq_true p2
          by_cases hq : 0 < kp[k]
          · have HKE := keptTo_yes lp kp k hlt hin hq
            have hd : decide (0 < kp[k]) = true := decide_eq_true hq
            obtain ⟨x1, x2⟩ := R1.out _ (List.getElem_mem hlt)
            have HSN : Hid (flushD ls (keptTo lp kp (k + 1)) = (flushD ls (keptTo lp kp k)).set lp[k].1.toNat lp[k].2) := by unfold Hid; rw [HKE, flushD_snoc]
            have hln := length_flushD ls (keptTo lp kp k)
            obtain ⟨z2, _, _⟩ := ho.cells
            generalize lp[k].2 = t at *
            generalize lp[k].1 = x at *
            generalize kp[k] = q at *
            obtain ⟨j, rfl⟩ := Int.eq_ofNat_of_zero_le x1
            rw [Int.toNat_natCast] at HSN
            obtain ⟨e1, f1⟩ := hst j (by omega)
            simp only [Nat.zero_add] at e1 f1
            have hgl := World.block_lt_of_cell? wr _ e1
            simp only at hgl
            have HST : Hid _ := hst
            have HBEL : Hid _ := hbel
            have HX : Hid _ := hx
            have HY : Hid _ := hy
            have HO : Hid _ := ho
            have hbl := World.block_lt_of_cell? w _ d1
            have hbl3 := World.block_lt_of_cell? w _ d3
            simp only at hbl hbl3
            generalize (flushD ls (keptTo lp kp k))[j] = t0 at *
            generalize flushD ls (keptTo lp kp k) = fl at *
            have n1 : ¬ g = w.heap.size := by omega
            have n2 : ¬ g = b := by omega
            have hgw : ¬ g = w2.heap.size := by omega
            clear d1 d2 d3 hst hbel hx hy ho HKE
            go_wp2_with fail
            go_region_held3 (fun w' => w'.cell? ⟨w2.heap.size, 0, none⟩ = some (.slice (some ⟨g, 0, none⟩) ls.length cap) ∧ w'.cell? ⟨w.heap.size, 1, none⟩ = some (.slice (some ⟨b, o, none⟩) lp.length cap2) ∧ w'.cell? ⟨b, o + k * 2, none⟩ = some (.int .i64 (j : Int)) ∧ w'.cell? ⟨b, o + k * 2 + 1, none⟩ = some (.string t))
              (first
                | go_keep
                | (go_split_ands; refine ⟨?_, ?_, ?_, ?_⟩ <;> (rw [World.cell?_setCell_other _ _ _ _ (by intro e; injection e with e _ _; omega)]; simp [*])))
              (fail)
            go_wp2
            have HS3 : Hid (StrsAt ((wr.drew).setCell ⟨g, j, none⟩ (.string t)) g 0 (flushD ls (keptTo lp kp (k + 1)))) := by
              unfold Hid
              rw [HSN.out]
              have := StrsAt.set (W := wr.drew) (i := j) HST.out (by omega) t
              simpa using this
            go_roundw
            case rel => exact ⟨k + 1, by omega, by go_num, HS3.out, (bD HBEL.out).setCell (p := ⟨g, j, none⟩) (by simp; omega) _, by simp; omega, Sha.row_other (Sha.row_drew HX.out) _ _ (by simp; omega), Sha.row_other (Sha.row_drew HY.out) _ _ (by simp; omega), Sha.row_other (Sha.row_drew HO.out) _ _ (by simp; omega)⟩
            case measure => simp [intOf]; omega
          · have HKE : Hid (flushD ls (keptTo lp kp (k + 1)) = flushD ls (keptTo lp kp k)) := by unfold Hid; rw [keptTo_low lp kp k hin hq]
            have hd : decide (0 < kp[k]) = false := decide_eq_false hq
            generalize kp[k] = q at *
            have HST : Hid _ := hst
            have HBEL : Hid _ := hbel
            have HX : Hid _ := hx
            have HY : Hid _ := hy
            have HO : Hid _ := ho
            clear d1 d2 d3 hst hbel hx hy ho c1 c2
            go_wp2
            go_roundw
            case rel => exact ⟨k + 1, by omega, by go_num, by rw [HKE.out]; exact HST.out, HBEL.out, hsz, HX.out, HY.out, HO.out⟩
            case measure => simp [intOf]; omega
        · have HKE : Hid (flushD ls (keptTo lp kp (k + 1)) = flushD ls (keptTo lp kp k)) := by unfold Hid; rw [keptTo_out lp kp k hin]
          have p2 : ¬ (k : Int) < (kp.length : Int) := by omega
          have hd : decide ((k : Int) < (kp.length : Int)) = false := decide_eq_false p2
          have HST : Hid _ := hst
          have HBEL : Hid _ := hbel
          have HX : Hid _ := hx
          have HY : Hid _ := hy
          have HO : Hid _ := ho
          clear d1 d2 hst hbel hx hy ho c1 c2
          go_wp2
          go_roundw
          case rel => exact ⟨k + 1, by omega, by go_num, by rw [HKE.out]; exact HST.out, HBEL.out, hsz, HX.out, HY.out, HO.out⟩
          case measure => simp [intOf]; omega
      · have e : k = lp.length := by omega
        subst e
        have hst2 : StrsAt wr g 0 (flushD ls (keptD lp kp)) := hst
        obtain ⟨_, z1, _⟩ := hx.cells
        obtain ⟨z2, z3, _⟩ := ho.cells
        obtain ⟨m0, m1, mf⟩ := hy.cells
        have HST : Hid _ := hst2
        have HBEL : Hid _ := hbel
        have HLN : Hid ((flushD ls (keptD lp kp)).length = ls.length) := length_flushD _ _
        obtain ⟨e1, _⟩ := hst2 0 (by have := HLN.out; omega)
        have hgl := World.block_lt_of_cell? wr _ e1
        simp only at hgl
        clear e1 hst hst2 hbel hx hy ho
        go_wp2_with fail
        refine bodyPost_ret (v := .agg #[.slice (some ⟨g, 0, none⟩) ls.length cap, .slice none 0 0]) (by simp [results, Tryz.results54, go_sem, m0, m1]) rfl ⟨_, _, rfl, ?_, ?_⟩
        · rw [← HLN.out]
          refine own_mk0 ?_ (by omega) (by simp; omega)
          refine StrsAt.other (StrsAt.other HST.out ?_ _) ?_ _ <;> (simp only; omega)
        · refine (HBEL.out.setCell ?_ _).setCell ?_ _ <;> (simp only; omega)
end Go.Proofs.YtkigmpeanllimaaGreatDoor.Disk
