/- Laws that the proof rests on, put together: What the program's TreeRead answers. The law on TreeRead. -/
import Derived.Test.YtjgkekgieodhnaaDoorImplTRd2
import Derived.Test.YtjgkekgieodhnaaDoorHarnFile3
/- What the program's TreeRead answers. -/
namespace Go.Proofs.YtjgkekgieodhnaaDoor.Tre
open Go.RowKit Go.Proofs.YtjgkekgieodhnaaDoor.Mem Go.Proofs.YtjgkekgieodhnaaDoor.Gf Go.Proofs.YtjgkekgieodhnaaDoor.Harn Go.Proofs.YtjgkekgieodhnaaDoor.Mark Go.Proofs.YtjgkekgieodhnaaDoor.GetText Go.Proofs.YtjgkekgieodhnaaDoor.Frm
open Go.Proofs.YtjgkekgieodhnaaDoor.GetNum (Laid)

theorem implL_small (s : ByteArray) : ∀ y ∈ implL s, y.p.size ≤ maxLen ∧ y.d.size ≤ maxLen := by
  rw [implL_eq]
  cases h : rdFs s (min (gN s 0).1.toNat 6) (gN s 0).2.1 with
  | none => simp
  | some l => exact rdFs_small (gN_spec s 0 (by omega)).ok h
theorem implL_len (s : ByteArray) : (implL s).length ≤ 6 := by
  rw [implL_eq]
  cases h : rdFs s (min (gN s 0).1.toNat 6) (gN s 0).2.1 with
  | none => simp
  | some l => have := rdFs_len h; simp only [Option.getD_some]; omega
theorem okL_cases (s : ByteArray) : (treeR (implL s) = false ∧ okL s = false) ∨ (treeR (implL s) = true ∧ treeO (implL s) = treeB (implL s) ∧ okL s = ((treeB (implL s)).toList == s.toList)) := by
  unfold okL treeO
  cases h : treeR (implL s)
  · exact .inl ⟨rfl, rfl⟩
  · exact .inr ⟨rfl, rfl, by simp⟩
set_option maxRecDepth 100000 in
set_option maxHeartbeats 1000000 in
theorem implTRd_any (s : ByteArray) (w : World) (hs : s.size ≤ 8000) (hL : Laid w) :
    Calls Tryd.prog 5 #[.string s] w fun e w' => ∃ v, e = .returned (.agg #[v, .int .i64 (outC s)]) ∧ Mk w' v (outL s) ∧ (∀ g, v.ownBlock = some g → w.heap.size ≤ g ∧ g < w'.heap.size) ∧ Below w.heap.size w w' := by
  have hs' : ¬ (8000 : Int) < (s.size : Int) := by omega
  have R0 : Hid (HasRow (w.alloc (.cells #[.slice none 0 0, .int .i64 0] 26)) w.heap.size [.slice none 0 0, .int .i64 0] 26) := Sha.row_new w _ _
  have HL := hidT hL
  clear hL
  have hlen := implL_len s
  have hsm := implL_small s
  have hcs := okL_cases s
  have E1 : outC s = if okL s then 0 else 3 := rfl
  have E2 : outL s = if okL s then implL s else [] := rfl
  go_enter Tryd.func5, Tryd.ntmps5
  go_wp2_with fail
  refine (readTree_any s _ (GetNum.laid_below HL.out ((Below.refl w.heap.size w).alloc (Nat.le_refl _) _))).mono ?_
  rintro e w1 ⟨v, rfl, how, hcap, hb1⟩
  have hmk := how.mk
  have hne : ∀ g, (v.ownBlock = some g) → w.heap.size < g := fun g h => by have := (how.lt g h).1; simp at this; omega
  generalize implL s = l at *
  generalize okL s = ok at *
  obtain ⟨ad, nn, cc, rfl⟩ : ∃ ad n c, v = .slice ad n c := by
    rcases hmk with ⟨g, c, h, _⟩ | ⟨h, _⟩
    · exact ⟨_, _, _, h⟩
    · exact ⟨_, _, _, h⟩
  have hb0 : Below w.heap.size w (w.alloc (.cells #[.slice none 0 0, .int .i64 0] 26)) := (Below.refl w.heap.size w).alloc (Nat.le_refl _) _
  have hB1 : Below w.heap.size w w1 := hb0.trans (hb1.mono (by simp))
  have hz1 : w.heap.size < w1.heap.size := by have := hb1.size; simp at this; omega
  have hr1 := Sha.row_below R0.out hb1 (by simp)
  have ha1 : Below w1.heap.size w1 (w1.alloc (.cells #[.slice ad nn cc] 24)) := (Below.refl w1.heap.size w1).alloc (Nat.le_refl _) _
  have ht2 : HasRow (w1.alloc (.cells #[.slice ad nn cc] 24)) w1.heap.size [.slice ad nn cc] 24 := Sha.row_new w1 [.slice ad nn cc] _
  have hzz : (w1.alloc (.cells #[.slice ad nn cc] 24)).heap.size = w1.heap.size + 1 := by simp
  obtain ⟨W2, hW2⟩ : ∃ W2, W2 = w1.alloc (.cells #[.slice ad nn cc] 24) := ⟨_, rfl⟩
  rw [← hW2] at ha1 ht2 hzz
  have hX := hW2.symm
  clear hW2 R0 hb0 hb1
  have hm2 := hmk.below ha1
  have ho2 : OwnF W2 (w.heap.size + 1) (.slice ad nn cc) l := how.below ha1 (by simp)
  have hr2 := Sha.row_below hr1 ha1 hz1
  have hB2 : Below w.heap.size w W2 := hB1.trans (ha1.mono (by omega))
  have KT := hidT (implTR_any _ l W2 hm2.files (by unfold maxLen; omega) hsm hcap)
  have t0 : W2.cell? ⟨w1.heap.size, 0, none⟩ = some (.slice ad nn cc) := Mem.cell_of_row ht2 0
  have HR2 := hidT hr2
  have HT2 := hidT ht2
  have HM2 := hidT hm2
  have HO2 := hidT ho2
  have HB2 := hidT hB2
  have HCP := hidT hcap
  have HSM := hidT hsm
  have HLE := hidT hlen
  have HE1 := hidT E1
  have HE2 := hidT E2
  have HCS := hidT hcs
  clear hmk how hne ho2 hcap hB1 hr1 ha1 ht2 hm2 hr2 hB2 hsm hlen E1 E2 hcs
  go_wp2_with fail
  refine (KT.out).mono ?_
  rintro e w3 ⟨rfl, hb3⟩
  have hr3 := Sha.row_below HR2.out hb3 (by omega)
  have ht3 := Sha.row_below HT2.out hb3 (by omega)
  have hm3 := HM2.out.below hb3
  have HO3 := hidT (HO2.out.below hb3 (Nat.le_refl _))
  have HB3 := hidT (HB2.out.trans (hb3.mono (by omega)) : Below w.heap.size w w3)
  have KB := hidT (implTB_any _ l w3 hm3.files (by unfold maxLen; have := HLE.out; omega) HSM.out HCP.out)
  have hz3 : w1.heap.size < w3.heap.size := by have := hb3.size; omega
  clear t0 KT
  have t0 : w3.cell? ⟨w1.heap.size, 0, none⟩ = some (.slice ad nn cc) := Mem.cell_of_row ht3 0
  have o0 : w3.cell? ⟨w.heap.size, 0, none⟩ = some (.slice none 0 0) := Mem.cell_of_row hr3 0
  have o1 : w3.cell? ⟨w.heap.size, 1, none⟩ = some (.int .i64 0) := Mem.cell_of_row hr3 1
  have of0 := Mem.frozen_of_row hr3 0
  have of1 := Mem.frozen_of_row hr3 1
  have HR3 := hidT hr3
  have HT3 := hidT ht3
  have HM3 := hidT hm3
  clear hb3 hr3 ht3 hm3 HR2 HT2 HM2 HB2 HO2
  rcases HCS.out with ⟨h1, h2⟩ | ⟨h1, h2, h3⟩
  · clear HCS
    rw [h1]
    subst h2
    go_wp2
    exact bodyPost_ret (v := .agg #[.slice none 0 0, .int .i64 3]) (by simp [results, Tryd.results5, go_sem, o0, o1]) rfl ⟨_, by rw [HE1.out]; rfl, by rw [HE2.out]; exact .inr ⟨rfl, rfl⟩, (fun g h => by cases h), (HB3.out.setCell (p := ⟨w.heap.size, 0, none⟩) (Nat.le_refl _) _).setCell (p := ⟨w.heap.size, 1, none⟩) (Nat.le_refl _) _⟩
  · clear HCS
    rw [h1]
    rw [h2] at KB
    generalize treeB l = R at *
    go_wp2_with fail
    refine (KB.out).mono ?_
    rintro e w4 ⟨rfl, hb4⟩
    have hr4 := Sha.row_below HR3.out hb4 (by omega)
    have ht4 := Sha.row_below HT3.out hb4 (by omega)
    have HO4 := hidT (HO3.out.below hb4 (Nat.le_refl _))
    have HB4 := hidT (HB3.out.trans (hb4.mono (by omega)) : Below w.heap.size w w4)
    clear t0 o0 o1 of0 of1
    have t0 : w4.cell? ⟨w1.heap.size, 0, none⟩ = some (.slice ad nn cc) := Mem.cell_of_row ht4 0
    have o0 : w4.cell? ⟨w.heap.size, 0, none⟩ = some (.slice none 0 0) := Mem.cell_of_row hr4 0
    have o1 : w4.cell? ⟨w.heap.size, 1, none⟩ = some (.int .i64 0) := Mem.cell_of_row hr4 1
    have of0 := Mem.frozen_of_row hr4 0
    have of1 := Mem.frozen_of_row hr4 1
    clear hb4 hr4 ht4 KB
    cases hcmp : (R.toList == s.toList)
    · rw [hcmp] at h3
      subst h3
      go_wp2
      exact bodyPost_ret (v := .agg #[.slice none 0 0, .int .i64 3]) (by simp [results, Tryd.results5, go_sem, o0, o1]) rfl ⟨_, by rw [HE1.out]; rfl, by rw [HE2.out]; exact .inr ⟨rfl, rfl⟩, (fun g h => by cases h), (HB4.out.setCell (p := ⟨w.heap.size, 0, none⟩) (Nat.le_refl _) _).setCell (p := ⟨w.heap.size, 1, none⟩) (Nat.le_refl _) _⟩
    · rw [hcmp] at h3
      subst h3
      go_wp2
      exact bodyPost_ret (v := .agg #[.slice ad nn cc, .int .i64 0]) (by simp [results, Tryd.results5, go_sem, o0, o1]) rfl ⟨_, by rw [HE1.out]; rfl, by
        rw [HE2.out]
        exact (HO4.out.setCell (a := ⟨w.heap.size, 0, none⟩) (fun e => by have := (HO4.out.lt _ e).1; simp only at this; omega) _ |>.setCell (a := ⟨w.heap.size, 1, none⟩) (fun e => by have := (HO4.out.lt _ e).1; simp only at this; omega) _).mk, (fun g h => by have := HO4.out.lt g h; simp; omega), (HB4.out.setCell (p := ⟨w.heap.size, 0, none⟩) (Nat.le_refl _) _).setCell (p := ⟨w.heap.size, 1, none⟩) (Nat.le_refl _) _⟩
end Go.Proofs.YtjgkekgieodhnaaDoor.Tre

/- The law on TreeRead. -/
namespace Go.Proofs.YtjgkekgieodhnaaDoor.Tre
open Go.RowKit Go.Proofs.YtjgkekgieodhnaaDoor.Mem Go.Proofs.YtjgkekgieodhnaaDoor.Gf Go.Proofs.YtjgkekgieodhnaaDoor.Harn Go.Proofs.YtjgkekgieodhnaaDoor.Mark Go.Proofs.YtjgkekgieodhnaaDoor.Frm
open Go.Proofs.YtjgkekgieodhnaaDoor.GetNum (Laid)

theorem specTRd_big (s : ByteArray) (w : World) (hs : 8000 < s.size) :
    Calls Tryd.prog 4 #[.string s] w fun e w' => ∃ v, e = .returned (.agg #[v, .int .i64 2]) ∧ Mk w' v [] ∧ Below w.heap.size w w' := by
  have hs' : (8000 : Int) < (s.size : Int) := by omega
  have KI := hidT (ill_any 2)
  have R0 : Hid (HasRow (w.alloc (.cells #[.slice none 0 0, .int .i64 0] 26)) w.heap.size [.slice none 0 0, .int .i64 0] 26) := Sha.row_new w _ _
  have B0 : Hid (Below w.heap.size w (w.alloc (.cells #[.slice none 0 0, .int .i64 0] 26))) := (Below.refl w.heap.size w).alloc (Nat.le_refl _) _
  go_enter Tryd.func4, Tryd.ntmps4
  go_wp2_with fail
  refine (KI.out _).mono ?_
  rintro e w1 ⟨rfl, hb⟩
  have hr1 := Sha.row_below R0.out hb (by simp)
  have o0 : w1.cell? ⟨w.heap.size, 0, none⟩ = some (.slice none 0 0) := Mem.cell_of_row hr1 0
  have o1 : w1.cell? ⟨w.heap.size, 1, none⟩ = some (.int .i64 0) := Mem.cell_of_row hr1 1
  have of0 := Mem.frozen_of_row hr1 0
  have of1 := Mem.frozen_of_row hr1 1
  have HB9 := hidT (B0.out.trans (hb.mono (by simp)))
  clear hr1 hb R0 B0
  go_wp2
  exact bodyPost_ret (v := .agg #[.slice none 0 0, .int .i64 2]) (by simp [results, Tryd.results4, go_sem, o0, o1]) rfl ⟨_, rfl, .inr ⟨rfl, rfl⟩, (HB9.out.setCell (p := ⟨w.heap.size, 0, none⟩) (Nat.le_refl _) _).setCell (p := ⟨w.heap.size, 1, none⟩) (Nat.le_refl _) _⟩
theorem implTRd_big (s : ByteArray) (w : World) (hs : 8000 < s.size) :
    Calls Tryd.prog 5 #[.string s] w fun e w' => ∃ v, e = .returned (.agg #[v, .int .i64 2]) ∧ Mk w' v [] ∧ (∀ g, v.ownBlock = some g → w.heap.size ≤ g ∧ g < w'.heap.size) ∧ Below w.heap.size w w' := by
  have hs' : (8000 : Int) < (s.size : Int) := by omega
  go_enter Tryd.func5, Tryd.ntmps5
  go_wp2
  exact bodyPost_ret (v := .agg #[.slice none 0 0, .int .i64 2]) (by simp [results, Tryd.results5, go_sem]) rfl ⟨_, rfl, .inr ⟨rfl, rfl⟩, (fun g h => by cases h), (Below.refl _ _).alloc (Nat.le_refl _) _⟩
theorem read_both (s : ByteArray) : ∃ (l : List Fl) (c : Int), l.length ≤ 6 ∧
    (∀ w, Calls Tryd.prog 4 #[.string s] w fun e w' => ∃ v, e = .returned (.agg #[v, .int .i64 c]) ∧ Mk w' v l ∧ Below w.heap.size w w') ∧
    (∀ w, Laid w → Calls Tryd.prog 5 #[.string s] w fun e w' => ∃ v, e = .returned (.agg #[v, .int .i64 c]) ∧ Mk w' v l ∧ (∀ g, v.ownBlock = some g → w.heap.size ≤ g ∧ g < w'.heap.size) ∧ Below w.heap.size w w') := by
  by_cases h : 8000 < s.size
  · exact ⟨[], 2, by simp, fun w => specTRd_big s w h, fun w _ => implTRd_big s w h⟩
  · exact ⟨outL s, outC s, by unfold outL; split; exact implL_len s; simp, fun w => specTRd_any s w (by omega), fun w hL => implTRd_any s w (by omega) hL⟩
theorem slice_of {W : World} {v : Value} {l : List Fl} (h : Mk W v l) : ∃ a n c, v = .slice a n c := by
  rcases h with ⟨g, c, h, _⟩ | ⟨h, _⟩
  · exact ⟨_, _, _, h⟩
  · exact ⟨_, _, _, h⟩
set_option maxRecDepth 100000 in
set_option maxHeartbeats 2000000 in
theorem treeRead_law (s : ByteArray) (w : World) (hm : (s.size : Int) ≤ 1048576) (hL : Laid w) :
    Calls Tryd.prog 3 #[.string s] w fun e w' => e = .returned (.bool true) ∧ Below w.heap.size w w' := by
  obtain ⟨l, c, hl, KS, KI⟩ := read_both s
  have HL := hidT hL
  have HS := hidT KS
  have HI := hidT KI
  have hl9 : l.length ≤ 1100000 := by omega
  have HLE := hidT hl9
  obtain ⟨T, hT, hT0⟩ : ∃ T : Int, T = ((1 + 3 * l.length : Nat) : Int) ∧ 0 ≤ T := ⟨_, rfl, by omega⟩
  have HTT := hidT hT
  clear KS KI hL hl hl9 hT
  go_enter Tryd.func3, Tryd.ntmps3
  go_wp2_with fail
  refine (HS.out _).mono ?_
  rintro e w1 ⟨v, rfl, hm1, hb1⟩
  obtain ⟨a0, n0, k0, rfl⟩ := slice_of hm1
  have hal : Below w1.heap.size w1 (w1.alloc (.cells #[.slice a0 n0 k0, .int .i64 c] 26)) := (Below.refl w1.heap.size w1).alloc (Nat.le_refl _) _
  have hrow : HasRow (w1.alloc (.cells #[.slice a0 n0 k0, .int .i64 c] 26)) w1.heap.size [.slice a0 n0 k0, .int .i64 c] 26 := Sha.row_new w1 [.slice a0 n0 k0, .int .i64 c] _
  have hzz : (w1.alloc (.cells #[.slice a0 n0 k0, .int .i64 c] 26)).heap.size = w1.heap.size + 1 := by simp
  obtain ⟨V1, hV⟩ : ∃ V, V = w1.alloc (.cells #[.slice a0 n0 k0, .int .i64 c] 26) := ⟨_, rfl⟩
  rw [← hV] at hal hrow hzz
  have hXV1 := hV.symm
  clear hV
  have HR1 := hidT hrow
  have HM1 := hidT (hm1.below hal)
  have HB1 := hidT (hb1.trans (hal.mono hb1.size) : Below w.heap.size w V1)
  have hz1 := hzz
  clear hal hrow hzz hm1 hb1 HS
  go_wp2_with fail
  refine (HI.out V1 (GetNum.laid_below HL.out HB1.out)).mono ?_
  rintro e w2 ⟨v, rfl, hm2, hf2, hb2⟩
  obtain ⟨a1, n1, k1, rfl⟩ := slice_of hm2
  have hal : Below w2.heap.size w2 (w2.alloc (.cells #[.slice a1 n1 k1, .int .i64 c] 26)) := (Below.refl w2.heap.size w2).alloc (Nat.le_refl _) _
  have hrow : HasRow (w2.alloc (.cells #[.slice a1 n1 k1, .int .i64 c] 26)) w2.heap.size [.slice a1 n1 k1, .int .i64 c] 26 := Sha.row_new w2 [.slice a1 n1 k1, .int .i64 c] _
  have hzz : (w2.alloc (.cells #[.slice a1 n1 k1, .int .i64 c] 26)).heap.size = w2.heap.size + 1 := by simp
  obtain ⟨V2, hV⟩ : ∃ V, V = w2.alloc (.cells #[.slice a1 n1 k1, .int .i64 c] 26) := ⟨_, rfl⟩
  rw [← hV] at hal hrow hzz
  have hXV2 := hV.symm
  clear hV
  have hs2 := hb2.size
  have HF := hidT hf2
  have HV2 := hidT (hb2.trans (hal.mono hb2.size) : Below V1.heap.size V1 V2)
  have HR2 := hidT hrow
  have HM2 := hidT (hm2.below hal)
  have hq2 : HasRow V2 w1.heap.size [.slice a0 n0 k0, .int .i64 c] 26 := Sha.row_below HR1.out HV2.out (by omega)
  have hz2 := hzz
  have za0 : V2.cell? ⟨w1.heap.size, 0, none⟩ = some (.slice a0 n0 k0) := Mem.cell_of_row hq2 0
  have za1 : V2.cell? ⟨w1.heap.size, 1, none⟩ = some (.int .i64 c) := Mem.cell_of_row hq2 1
  have zb0 : V2.cell? ⟨w2.heap.size, 0, none⟩ = some (.slice a1 n1 k1) := Mem.cell_of_row hrow 0
  have zb1 : V2.cell? ⟨w2.heap.size, 1, none⟩ = some (.int .i64 c) := Mem.cell_of_row hrow 1
  have KE := hidT (eqTO_any (.slice a1 n1 k1) (.slice a0 n0 k0) c l V2 HM2.out.files (HM1.out.below HV2.out).files HLE.out)
  clear hal hrow hzz hm2 hb2 hf2 hq2
  go_wp2_with fail
  refine (KE.out).mono ?_
  rintro e w3 ⟨rfl, hb3⟩
  have hs3 := hb3.size
  have HV3 := hidT (HV2.out.trans (hb3.mono HV2.out.size) : Below V1.heap.size V1 w3)
  have HR3 := hidT (Sha.row_below HR2.out hb3 (by omega))
  have HM3 := hidT (HM2.out.below hb3)
  have HQ3 := hidT (Sha.row_below HR1.out HV3.out (by omega))
  clear za0 za1 zb0 zb1 KE HV2 HR2 HM2 hb3
  have za0 : w3.cell? ⟨w1.heap.size, 0, none⟩ = some (.slice a0 n0 k0) := Mem.cell_of_row HQ3.out 0
  have za1 : w3.cell? ⟨w1.heap.size, 1, none⟩ = some (.int .i64 c) := Mem.cell_of_row HQ3.out 1
  have zb0 : w3.cell? ⟨w2.heap.size, 0, none⟩ = some (.slice a1 n1 k1) := Mem.cell_of_row HR3.out 0
  have zb1 : w3.cell? ⟨w2.heap.size, 1, none⟩ = some (.int .i64 c) := Mem.cell_of_row HR3.out 1
  have KM := markTO_any (.slice a1 n1 k1) 1 c l w3 HM3.out HLE.out (by omega)
  rw [← HTT.out] at KM
  have KMH := hidT KM
  clear KM
  go_wp2_with fail
  refine (KMH.out).mono ?_
  rintro e w4 ⟨rfl, hm4, hg4⟩
  have hs4 := hg4.size
  have HV4 := hidT (HV3.out.grown hg4 (by omega) (fun j hj => (HF.out j hj).1) : Below V1.heap.size V1 w4)
  have HR4 := hidT (row_grown HR3.out hg4 (fun e => by have := (HF.out _ e.symm).2; omega))
  have HQ4 := hidT (Sha.row_below HR1.out HV4.out (by omega))
  have HM4 := hidT hm4
  clear za0 za1 zb0 zb1 KMH HV3 HR3 HM3 HQ3 hg4 hm4
  have za0 : w4.cell? ⟨w1.heap.size, 0, none⟩ = some (.slice a0 n0 k0) := Mem.cell_of_row HQ4.out 0
  have za1 : w4.cell? ⟨w1.heap.size, 1, none⟩ = some (.int .i64 c) := Mem.cell_of_row HQ4.out 1
  have zb0 : w4.cell? ⟨w2.heap.size, 0, none⟩ = some (.slice a1 n1 k1) := Mem.cell_of_row HR4.out 0
  have zb1 : w4.cell? ⟨w2.heap.size, 1, none⟩ = some (.int .i64 c) := Mem.cell_of_row HR4.out 1
  have KH := heldTO_any (.slice a1 n1 k1) 1 l.length c w4 HM4.out.files HLE.out (by omega)
  rw [← HTT.out] at KH
  have KHH := hidT KH
  clear KH
  go_wp2_with fail
  refine (KHH.out).mono ?_
  rintro e w5 ⟨rfl, hb5⟩
  have hs5 := hb5.size
  have HV5 := hidT (HV4.out.trans (hb5.mono HV4.out.size) : Below V1.heap.size V1 w5)
  have HR5 := hidT (Sha.row_below HR4.out hb5 (by omega))
  have HM5 := hidT (HM4.out.below hb5)
  have HQ5 := hidT (Sha.row_below HR1.out HV5.out (by omega))
  have HB5 := hidT (HB1.out.trans (HV5.out.mono HB1.out.size) : Below w.heap.size w w5)
  have hn0 : ¬ T < 0 := by omega
  clear za0 za1 zb0 zb1 KHH HV4 HR4 HM4 HQ4 hb5
  go_wp2_with fail
  refine (HI.out w5 (GetNum.laid_below HL.out HB5.out)).mono ?_
  rintro e w6 ⟨v, rfl, hm6, hf6, hb6⟩
  obtain ⟨a2, n2, k2, rfl⟩ := slice_of hm6
  have hal : Below w6.heap.size w6 (w6.alloc (.cells #[.slice a2 n2 k2, .int .i64 c] 26)) := (Below.refl w6.heap.size w6).alloc (Nat.le_refl _) _
  have hrow : HasRow (w6.alloc (.cells #[.slice a2 n2 k2, .int .i64 c] 26)) w6.heap.size [.slice a2 n2 k2, .int .i64 c] 26 := Sha.row_new w6 [.slice a2 n2 k2, .int .i64 c] _
  have hzz : (w6.alloc (.cells #[.slice a2 n2 k2, .int .i64 c] 26)).heap.size = w6.heap.size + 1 := by simp
  obtain ⟨V6, hV⟩ : ∃ V, V = w6.alloc (.cells #[.slice a2 n2 k2, .int .i64 c] 26) := ⟨_, rfl⟩
  rw [← hV] at hal hrow hzz
  have hXV6 := hV.symm
  clear hV
  have hs6 := hb6.size
  have hb6' : Below w5.heap.size w5 V6 := hb6.trans (hal.mono hs6)
  have HV6 := hidT (HV5.out.trans (hb6'.mono HV5.out.size) : Below V1.heap.size V1 V6)
  have HR6 := hidT (Sha.row_below HR5.out hb6' (by omega))
  have HM6 := hidT (HM5.out.below hb6')
  have HQ6 := hidT (Sha.row_below HR1.out HV6.out (by omega))
  have za0 : V6.cell? ⟨w1.heap.size, 0, none⟩ = some (.slice a0 n0 k0) := Mem.cell_of_row HQ6.out 0
  have za1 : V6.cell? ⟨w1.heap.size, 1, none⟩ = some (.int .i64 c) := Mem.cell_of_row HQ6.out 1
  have zd0 : V6.cell? ⟨w6.heap.size, 0, none⟩ = some (.slice a2 n2 k2) := Mem.cell_of_row hrow 0
  have zd1 : V6.cell? ⟨w6.heap.size, 1, none⟩ = some (.int .i64 c) := Mem.cell_of_row hrow 1
  have KE := hidT (eqTO_any (.slice a2 n2 k2) (.slice a0 n0 k0) c l V6 (hm6.below hal).files (HM1.out.below HV6.out).files HLE.out)
  have hz6 := hzz
  clear hal hrow hzz hm6 hb6 hf6 hb6' HV5 HR5 HM5 HQ5
  go_wp2_with fail
  refine (KE.out).mono ?_
  rintro e w7 ⟨rfl, hb7⟩
  have hs7 := hb7.size
  have HV7 := hidT (HV6.out.trans (hb7.mono HV6.out.size) : Below V1.heap.size V1 w7)
  have HR7 := hidT (Sha.row_below HR6.out hb7 (by omega))
  have HM7 := hidT (HM6.out.below hb7)
  clear za0 za1 zd0 zd1 KE HV6 HR6 HM6 HQ6 hb7
  have zb0 : w7.cell? ⟨w2.heap.size, 0, none⟩ = some (.slice a1 n1 k1) := Mem.cell_of_row HR7.out 0
  have zb1 : w7.cell? ⟨w2.heap.size, 1, none⟩ = some (.int .i64 c) := Mem.cell_of_row HR7.out 1
  have KH := heldTO_any (.slice a1 n1 k1) 1 l.length c w7 HM7.out.files HLE.out (by omega)
  rw [← HTT.out] at KH
  have KHH := hidT KH
  clear KH
  go_wp2_with fail
  refine (KHH.out).mono ?_
  rintro e w8 ⟨rfl, hb8⟩
  have HB8 := hidT (HB1.out.trans ((HV7.out.trans (hb8.mono HV7.out.size)).mono HB1.out.size) : Below w.heap.size w w8)
  clear zb0 zb1 KHH HV7 HR7 HM7 hb8
  go_wp2
  go_ret
  exact ⟨rfl, HB8.out⟩
end Go.Proofs.YtjgkekgieodhnaaDoor.Tre
