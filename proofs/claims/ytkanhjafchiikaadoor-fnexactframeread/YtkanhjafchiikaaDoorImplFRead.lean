/- What the program's FrameRead answers. -/
import Derived.Test.YtkanhjafchiikaaDoorImplReadF
import Derived.Test.YtkanhjafchiikaaDoorImplUnseal
namespace Go.Proofs.YtkanhjafchiikaaDoor.Frm
open Go.RowKit Go.Proofs.YtkanhjafchiikaaDoor.Mem Go.Proofs.YtkanhjafchiikaaDoor.Gf Go.Proofs.YtkanhjafchiikaaDoor.Harn Go.Proofs.YtkanhjafchiikaaDoor.GetText Go.Proofs.YtkanhjafchiikaaDoor.GetNum

set_option maxRecDepth 100000 in
set_option maxHeartbeats 1000000 in
theorem implFRead_no (T : ByteArray) (c : Int) (w : World) (hc : c ≠ 0) (hu : ∀ W, Calls Tryd.prog 11 #[.string T] W fun e w' => e = .returned (.agg #[.string ByteArray.empty, .int .i64 0, .int .i64 c]) ∧ Below W.heap.size W w') :
    Calls Tryd.prog 5 #[.string T] w fun e w' => e = .returned (Fr.none.told c) ∧ Below w.heap.size w w' := by
  have HU : Hid _ := hu
  have e1 : (c != 0) = true := bne_iff_ne.2 hc
  rw [told_none]
  clear hu hc
  obtain ⟨W2, hW2⟩ : ∃ W2, W2 = w.alloc (.cells #[.int .i64 0, .int .i64 0, .int .i64 0, .int .i64 0, .int .i64 0, .int .i64 0, .int .i64 0, .string { data := #[] }, .int .i64 0] 27) := ⟨_, rfl⟩
  have HB2 : Hid (Below w.heap.size w W2) := by rw [hW2]; exact bself' _
  have HO2 : Hid (HasRow W2 w.heap.size [.int .i64 0, .int .i64 0, .int .i64 0, .int .i64 0, .int .i64 0, .int .i64 0, .int .i64 0, .string ByteArray.empty, .int .i64 0] 27) := by rw [hW2]; exact Sha.row_new w _ _
  have hz2 : w.heap.size < W2.heap.size := by rw [hW2]; simp
  go_enter Tryd.func5, Tryd.ntmps5
  go_wp2_with fail
  rw [← hW2]
  clear hW2
  refine (HU.out _).mono ?_
  rintro e w1 ⟨rfl, hb1⟩
  have HB1 : Hid (Below w.heap.size w w1) := Mem.bstep HB2.out hb1
  have hO : HasRow w1 w.heap.size [.int .i64 0, .int .i64 0, .int .i64 0, .int .i64 0, .int .i64 0, .int .i64 0, .int .i64 0, .string ByteArray.empty, .int .i64 0] 27 := Sha.row_below HO2.out hb1 hz2
  have hz1 : w.heap.size < w1.heap.size := by have := hb1.size; omega
  have o0 : w1.cell? ⟨w.heap.size, 0, none⟩ = some (.int .i64 0) := Mem.cell_of_row hO 0
  have o1 : w1.cell? ⟨w.heap.size, 1, none⟩ = some (.int .i64 0) := Mem.cell_of_row hO 1
  have o2 : w1.cell? ⟨w.heap.size, 2, none⟩ = some (.int .i64 0) := Mem.cell_of_row hO 2
  have o3 : w1.cell? ⟨w.heap.size, 3, none⟩ = some (.int .i64 0) := Mem.cell_of_row hO 3
  have o4 : w1.cell? ⟨w.heap.size, 4, none⟩ = some (.int .i64 0) := Mem.cell_of_row hO 4
  have o5 : w1.cell? ⟨w.heap.size, 5, none⟩ = some (.int .i64 0) := Mem.cell_of_row hO 5
  have o6 : w1.cell? ⟨w.heap.size, 6, none⟩ = some (.int .i64 0) := Mem.cell_of_row hO 6
  have o7 : w1.cell? ⟨w.heap.size, 7, none⟩ = some (.string ByteArray.empty) := Mem.cell_of_row hO 7
  have o8 : w1.cell? ⟨w.heap.size, 8, none⟩ = some (.int .i64 0) := Mem.cell_of_row hO 8
  have of : ∀ o, w1.frozen? ⟨w.heap.size, o, none⟩ = false := Mem.frozen_of_row hO
  have g1 : ¬ w.heap.size = w1.heap.size := by omega
  have g2 : ¬ w1.heap.size = w.heap.size := by omega
  have g3 : w.heap.size < w1.heap.size := by omega
  clear hb1 hO HB2 HO2
  go_wp2
  exact bodyPost_ret (v := .agg #[.int .i64 0, .int .i64 0, .int .i64 0, .int .i64 0, .int .i64 0, .int .i64 0, .int .i64 0, .string ByteArray.empty, .int .i64 c]) (by simp [results, Tryd.results5, go_sem, World.cell?_alloc_lt, g3, o0, o1, o2, o3, o4, o5, o6, o7, o8]; rfl) rfl ⟨rfl, by
    refine Mem.balloc ?_ _
    iterate 9 refine Below.setCell (p := ⟨w.heap.size, _, none⟩) ?_ (by simp) _
    exact HB1.out⟩

set_option maxRecDepth 100000 in
set_option maxHeartbeats 1000000 in
theorem implFRead_yes (T s : ByteArray) (F : Fr) (w : World) (hL : Laid w) (hu : ∀ W, Calls Tryd.prog 11 #[.string T] W fun e w' => e = .returned (.agg #[.string s, .int .i64 0, .int .i64 0]) ∧ Below W.heap.size W w')
    (hr : ∀ W, Laid W → Calls Tryd.prog 12 #[.string s] W fun e w' => e = .returned F.val ∧ Below W.heap.size W w') :
    Calls Tryd.prog 5 #[.string T] w fun e w' => e = .returned (tellF T F false) ∧ Below w.heap.size w w' := by
  have HU : Hid _ := hu
  have HR : Hid _ := hr
  have HLD : Hid (∀ W, Below w.heap.size w W → Laid W) := fun W hB => laid_below hL hB
  have HFB : Hid (∀ W, Calls Tryd.prog 13 #[F.val] W fun e w' => e = .returned (.string F.out) ∧ Below W.heap.size W w') := fun W => implFB_any F W
  clear hu hr hL
  obtain ⟨z, hz⟩ : ∃ z, z = F.out := ⟨_, rfl⟩
  obtain ⟨v, hv⟩ : ∃ v, v = tellF T F false := ⟨_, rfl⟩
  have HV : Hid (((z.toList == T.toList) = true → v = F.told 0) ∧ ((z.toList == T.toList) = false → v = Fr.none.told 3)) := by
    subst hz; subst hv
    refine ⟨fun h => ?_, fun h => ?_⟩
    · unfold tellF; rw [if_pos ⟨rfl, h⟩]
    · unfold tellF; rw [if_neg]; rintro ⟨_, h2⟩; rw [h] at h2; cases h2
  rw [← hz] at HFB
  rw [← hv]
  clear hz hv
  obtain ⟨o, g, gs, n, m, sz, x, t⟩ := F
  unfold Fr.val at HR HFB
  unfold Fr.told Fr.none at HV
  dsimp only at *
  obtain ⟨W2, hW2⟩ : ∃ W2, W2 = w.alloc (.cells #[.int .i64 0, .int .i64 0, .int .i64 0, .int .i64 0, .int .i64 0, .int .i64 0, .int .i64 0, .string { data := #[] }, .int .i64 0] 27) := ⟨_, rfl⟩
  have HB2 : Hid (Below w.heap.size w W2) := by rw [hW2]; exact bself' _
  have HO2 : Hid (HasRow W2 w.heap.size [.int .i64 0, .int .i64 0, .int .i64 0, .int .i64 0, .int .i64 0, .int .i64 0, .int .i64 0, .string ByteArray.empty, .int .i64 0] 27) := by rw [hW2]; exact Sha.row_new w _ _
  have hz2 : w.heap.size < W2.heap.size := by rw [hW2]; simp
  go_enter Tryd.func5, Tryd.ntmps5
  go_wp2_with fail
  rw [← hW2]
  clear hW2
  refine (HU.out _).mono ?_
  rintro e w1 ⟨rfl, hb1⟩
  have HB1 : Hid (Below w.heap.size w w1) := Mem.bstep HB2.out hb1
  have HO1 : Hid (HasRow w1 w.heap.size [.int .i64 0, .int .i64 0, .int .i64 0, .int .i64 0, .int .i64 0, .int .i64 0, .int .i64 0, .string ByteArray.empty, .int .i64 0] 27) := Sha.row_below HO2.out hb1 hz2
  have hz1 : w.heap.size < w1.heap.size := by have := hb1.size; omega
  clear hb1 HB2 HO2 hz2
  go_wp2_with fail
  refine (HR.out _ (HLD.out _ (Mem.balloc HB1.out _))).mono ?_
  rintro e w3 ⟨rfl, hb3⟩
  have HB3 : Hid (Below w.heap.size w w3) := Mem.bstep (Mem.balloc HB1.out _) hb3
  have HO3 : Hid (HasRow w3 w.heap.size [.int .i64 0, .int .i64 0, .int .i64 0, .int .i64 0, .int .i64 0, .int .i64 0, .int .i64 0, .string ByteArray.empty, .int .i64 0] 27) := Sha.row_below (Sha.row_alloc HO1.out _) hb3 (by simp; omega)
  have hz3 : w.heap.size < w3.heap.size := by have := hb3.size; simp at this; omega
  clear hb3 HB1 HO1 hz1
  go_wp2_with fail
  refine (HFB.out _).mono ?_
  rintro e w4 ⟨rfl, hb4⟩
  have HB4 : Hid (Below w.heap.size w w4) := Mem.bstep (Mem.balloc HB3.out _) hb4
  have hO : HasRow w4 w.heap.size [.int .i64 0, .int .i64 0, .int .i64 0, .int .i64 0, .int .i64 0, .int .i64 0, .int .i64 0, .string ByteArray.empty, .int .i64 0] 27 := Sha.row_below (Sha.row_alloc HO3.out _) hb4 (by simp; omega)
  have hF : HasRow w4 w3.heap.size [.int .i64 o, .int .i64 g, .int .i64 gs, .int .i64 n, .int .i64 m, .int .i64 sz, .int .i64 x, .string t] 25 := Sha.row_below (Sha.row_new w3 _ _) hb4 (by simp)
  have hz4 : w3.heap.size < w4.heap.size := by have := hb4.size; simp at this; omega
  have o0 : w4.cell? ⟨w.heap.size, 0, none⟩ = some (.int .i64 0) := Mem.cell_of_row hO 0
  have o1 : w4.cell? ⟨w.heap.size, 1, none⟩ = some (.int .i64 0) := Mem.cell_of_row hO 1
  have o2 : w4.cell? ⟨w.heap.size, 2, none⟩ = some (.int .i64 0) := Mem.cell_of_row hO 2
  have o3 : w4.cell? ⟨w.heap.size, 3, none⟩ = some (.int .i64 0) := Mem.cell_of_row hO 3
  have o4 : w4.cell? ⟨w.heap.size, 4, none⟩ = some (.int .i64 0) := Mem.cell_of_row hO 4
  have o5 : w4.cell? ⟨w.heap.size, 5, none⟩ = some (.int .i64 0) := Mem.cell_of_row hO 5
  have o6 : w4.cell? ⟨w.heap.size, 6, none⟩ = some (.int .i64 0) := Mem.cell_of_row hO 6
  have o7 : w4.cell? ⟨w.heap.size, 7, none⟩ = some (.string ByteArray.empty) := Mem.cell_of_row hO 7
  have o8 : w4.cell? ⟨w.heap.size, 8, none⟩ = some (.int .i64 0) := Mem.cell_of_row hO 8
  have of : ∀ o, w4.frozen? ⟨w.heap.size, o, none⟩ = false := Mem.frozen_of_row hO
  have g1 : ¬ w.heap.size = w4.heap.size := by omega
  have g2 : ¬ w4.heap.size = w.heap.size := by omega
  have g3 : w.heap.size < w4.heap.size := by omega
  have f0 : w4.cell? ⟨w3.heap.size, 0, none⟩ = some (.int .i64 o) := Mem.cell_of_row hF 0
  have f1 : w4.cell? ⟨w3.heap.size, 1, none⟩ = some (.int .i64 g) := Mem.cell_of_row hF 1
  have f2 : w4.cell? ⟨w3.heap.size, 2, none⟩ = some (.int .i64 gs) := Mem.cell_of_row hF 2
  have f3 : w4.cell? ⟨w3.heap.size, 3, none⟩ = some (.int .i64 n) := Mem.cell_of_row hF 3
  have f4 : w4.cell? ⟨w3.heap.size, 4, none⟩ = some (.int .i64 m) := Mem.cell_of_row hF 4
  have f5 : w4.cell? ⟨w3.heap.size, 5, none⟩ = some (.int .i64 sz) := Mem.cell_of_row hF 5
  have f6 : w4.cell? ⟨w3.heap.size, 6, none⟩ = some (.int .i64 x) := Mem.cell_of_row hF 6
  have f7 : w4.cell? ⟨w3.heap.size, 7, none⟩ = some (.string t) := Mem.cell_of_row hF 7
  have ff : ∀ o, w4.frozen? ⟨w3.heap.size, o, none⟩ = false := Mem.frozen_of_row hF
  have k1 : ¬ w.heap.size = w3.heap.size := by omega
  have k2 : ¬ w3.heap.size = w.heap.size := by omega
  clear hb4 hO hF HB3 HO3
  cases hq : (z.toList == T.toList)
  · have HV' : Hid _ := HV.out.2 hq
    clear HV
    have HV : Hid (v = _) := HV'
    clear HV'
    go_wp2
    exact bodyPost_ret (v := .agg #[.int .i64 0, .int .i64 0, .int .i64 0, .int .i64 0, .int .i64 0, .int .i64 0, .int .i64 0, .string ByteArray.empty, .int .i64 3]) (by simp [results, Tryd.results5, go_sem, o0, o1, o2, o3, o4, o5, o6, o7, o8]; rfl) rfl ⟨by rw [HV.out], by
      iterate 9 refine Below.setCell (p := ⟨w.heap.size, _, none⟩) ?_ (by simp) _
      exact HB4.out⟩
  · have HV' : Hid _ := HV.out.1 hq
    clear HV
    have HV : Hid (v = _) := HV'
    clear HV'
    go_wp2
    exact bodyPost_ret (v := .agg #[.int .i64 o, .int .i64 g, .int .i64 gs, .int .i64 n, .int .i64 m, .int .i64 sz, .int .i64 x, .string t, .int .i64 0]) (by simp [results, Tryd.results5, go_sem, o0, o1, o2, o3, o4, o5, o6, o7, o8]) rfl ⟨by rw [HV.out], by
      iterate 9 refine Below.setCell (p := ⟨w.heap.size, _, none⟩) ?_ (by simp) _
      exact HB4.out⟩
end Go.Proofs.YtkanhjafchiikaaDoor.Frm
