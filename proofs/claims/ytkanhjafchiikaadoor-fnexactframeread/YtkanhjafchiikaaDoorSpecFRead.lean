/- What the model's FrameRead answers. -/
import Derived.Test.YtkanhjafchiikaaDoorSeqNum
import Derived.Test.YtkanhjafchiikaaDoorSpecUnseal
import Derived.BigRegion
namespace Go.Proofs.YtkanhjafchiikaaDoor.Frm
open Go.RowKit Go.Proofs.YtkanhjafchiikaaDoor.Mem Go.Proofs.YtkanhjafchiikaaDoor.Gf Go.Proofs.YtkanhjafchiikaaDoor.Harn Go.Proofs.YtkanhjafchiikaaDoor.Disk Go.Proofs.YtkanhjafchiikaaDoor.GetText Go.Proofs.YtkanhjafchiikaaDoor.GetNum

set_option maxRecDepth 100000 in
set_option maxHeartbeats 1000000 in
theorem specFRead_no (T : ByteArray) (c : Int) (w : World) (hc : c ≠ 0) (hu : ∀ W, Calls Tryd.prog 7 #[.string T] W fun e w' => e = .returned (.agg #[.string ByteArray.empty, .int .i64 0, .int .i64 c]) ∧ Below W.heap.size W w') :
    Calls Tryd.prog 4 #[.string T] w fun e w' => e = .returned (Fr.none.told c) ∧ Below w.heap.size w w' := by
  have HU : Hid _ := hu
  have e1 : (c != 0) = true := bne_iff_ne.2 hc
  rw [told_none]
  clear hu hc
  obtain ⟨W2, hW2⟩ : ∃ W2, W2 = w.alloc (.cells #[.int .i64 0, .int .i64 0, .int .i64 0, .int .i64 0, .int .i64 0, .int .i64 0, .int .i64 0, .string { data := #[] }, .int .i64 0] 27) := ⟨_, rfl⟩
  have HB2 : Hid (Below w.heap.size w W2) := by rw [hW2]; exact bself' _
  have HO2 : Hid (HasRow W2 w.heap.size [.int .i64 0, .int .i64 0, .int .i64 0, .int .i64 0, .int .i64 0, .int .i64 0, .int .i64 0, .string ByteArray.empty, .int .i64 0] 27) := by rw [hW2]; exact Sha.row_new w _ _
  have hz2 : w.heap.size < W2.heap.size := by rw [hW2]; simp
  go_enter Tryd.func4, Tryd.ntmps4
  go_wp2_with fail
  rw [← hW2]
  clear hW2
  refine (HU.out _).mono ?_
  rintro e w1 ⟨rfl, hb1⟩
  have HB1 : Hid (Below w.heap.size w w1) := Mem.bstep HB2.out hb1
  have hO : HasRow w1 w.heap.size [.int .i64 0, .int .i64 0, .int .i64 0, .int .i64 0, .int .i64 0, .int .i64 0, .int .i64 0, .string ByteArray.empty, .int .i64 0] 27 := Sha.row_below HO2.out hb1 hz2
  have hz1 : w.heap.size < w1.heap.size := by have := hb1.size; omega
  have o0 : w1.cell? ⟨w.heap.size, 0, none⟩ = some (.int .i64 0) := Mem.cell_of_row hO 0
  have o1 : w1.cell? ⟨w.heap.size, 1, none⟩ = some (.int .i64 0) := Mem.cell_of_row hO 1
  have o2 : w1.cell? ⟨w.heap.size, 2, none⟩ = some (.int .i64 0) := Mem.cell_of_row hO 2
  have o3 : w1.cell? ⟨w.heap.size, 3, none⟩ = some (.int .i64 0) := Mem.cell_of_row hO 3
  have o4 : w1.cell? ⟨w.heap.size, 4, none⟩ = some (.int .i64 0) := Mem.cell_of_row hO 4
  have o5 : w1.cell? ⟨w.heap.size, 5, none⟩ = some (.int .i64 0) := Mem.cell_of_row hO 5
  have o6 : w1.cell? ⟨w.heap.size, 6, none⟩ = some (.int .i64 0) := Mem.cell_of_row hO 6
  have o7 : w1.cell? ⟨w.heap.size, 7, none⟩ = some (.string ByteArray.empty) := Mem.cell_of_row hO 7
  have o8 : w1.cell? ⟨w.heap.size, 8, none⟩ = some (.int .i64 0) := Mem.cell_of_row hO 8
  have of : ∀ o, w1.frozen? ⟨w.heap.size, o, none⟩ = false := Mem.frozen_of_row hO
  have g1 : ¬ w.heap.size = w1.heap.size := by omega
  have g2 : ¬ w1.heap.size = w.heap.size := by omega
  have g3 : w.heap.size < w1.heap.size := by omega
  clear hb1 hO HB2 HO2
  go_wp2
  exact bodyPost_ret (v := .agg #[.int .i64 0, .int .i64 0, .int .i64 0, .int .i64 0, .int .i64 0, .int .i64 0, .int .i64 0, .string ByteArray.empty, .int .i64 c]) (by simp [results, Tryd.results4, go_sem, World.cell?_alloc_lt, g3, o0, o1, o2, o3, o4, o5, o6, o7, o8]; rfl) rfl ⟨rfl, by
    refine Mem.balloc ?_ _
    iterate 9 refine Below.setCell (p := ⟨w.heap.size, _, none⟩) ?_ (by simp) _
    exact HB1.out⟩

set_option maxRecDepth 100000 in
set_option maxHeartbeats 1000000 in
theorem specFRead_yes (T s : ByteArray) (l : List (Int × Int)) (t : ByteArray) (c : Int) (w : World) (hsv : Sev s l) (ht : Txt s (atAt l 7) t c) (hu : ∀ W, Calls Tryd.prog 7 #[.string T] W fun e w' => e = .returned (.agg #[.string s, .int .i64 0, .int .i64 0]) ∧ Below W.heap.size W w') :
    Calls Tryd.prog 4 #[.string T] w fun e w' => e = .returned (tellF T (readF l (if badAt l 7 = false then t else ByteArray.empty)) (badAt l 7 || decide (c ≠ 0))) ∧ Below w.heap.size w w' := by
  have HU : Hid _ := hu
  have HS : Hid (Sev s l) := hsv
  have HX : Hid (Txt s (atAt l 7) t c) := ht
  clear hu
  obtain ⟨t', ht'⟩ : ∃ x, x = (if badAt l 7 = false then t else ByteArray.empty) := ⟨_, rfl⟩
  obtain ⟨bb, hbb⟩ : ∃ x, x = (badAt l 7 || decide (c ≠ 0)) := ⟨_, rfl⟩
  rw [← ht', ← hbb]
  obtain ⟨v0, hv0⟩ : ∃ x, x = valAt l 0 := ⟨_, rfl⟩
  obtain ⟨v1, hv1⟩ : ∃ x, x = valAt l 1 := ⟨_, rfl⟩
  obtain ⟨v2, hv2⟩ : ∃ x, x = valAt l 2 := ⟨_, rfl⟩
  obtain ⟨v3, hv3⟩ : ∃ x, x = valAt l 3 := ⟨_, rfl⟩
  obtain ⟨v4, hv4⟩ : ∃ x, x = valAt l 4 := ⟨_, rfl⟩
  obtain ⟨v5, hv5⟩ : ∃ x, x = valAt l 5 := ⟨_, rfl⟩
  obtain ⟨v6, hv6⟩ : ∃ x, x = valAt l 6 := ⟨_, rfl⟩
  have HFE : readF l t' = ⟨v0, v1, v2, v3, v4, v5, v6, t'⟩ := by rw [hv0, hv1, hv2, hv3, hv4, hv5, hv6]; rfl
  rw [HFE]
  have HFB : Hid (∀ W, Calls Tryd.prog 10 #[Fr.val ⟨v0, v1, v2, v3, v4, v5, v6, t'⟩] W fun e w' => e = .returned (.string (Fr.out ⟨v0, v1, v2, v3, v4, v5, v6, t'⟩)) ∧ Below W.heap.size W w') := fun W => specFB_any _ W
  have HK0 : Hid (∀ R W, Rdr W R s (atAt l 0) (badAt l 0) → Calls Tryd.prog 8 #[.pointer (some ⟨R, 0, none⟩)] W fun e w' => e = .returned (.int .i64 v0) ∧ Rdr w' R s (atAt l 1) (badAt l 1) ∧ Only (fun k => k = R) W w') := fun R W h => by rw [hv0]; exact seq_any R s l 0 W (by omega) hsv h
  have HK1 : Hid (∀ R W, Rdr W R s (atAt l 1) (badAt l 1) → Calls Tryd.prog 8 #[.pointer (some ⟨R, 0, none⟩)] W fun e w' => e = .returned (.int .i64 v1) ∧ Rdr w' R s (atAt l 2) (badAt l 2) ∧ Only (fun k => k = R) W w') := fun R W h => by rw [hv1]; exact seq_any R s l 1 W (by omega) hsv h
  have HK2 : Hid (∀ R W, Rdr W R s (atAt l 2) (badAt l 2) → Calls Tryd.prog 8 #[.pointer (some ⟨R, 0, none⟩)] W fun e w' => e = .returned (.int .i64 v2) ∧ Rdr w' R s (atAt l 3) (badAt l 3) ∧ Only (fun k => k = R) W w') := fun R W h => by rw [hv2]; exact seq_any R s l 2 W (by omega) hsv h
  have HK3 : Hid (∀ R W, Rdr W R s (atAt l 3) (badAt l 3) → Calls Tryd.prog 8 #[.pointer (some ⟨R, 0, none⟩)] W fun e w' => e = .returned (.int .i64 v3) ∧ Rdr w' R s (atAt l 4) (badAt l 4) ∧ Only (fun k => k = R) W w') := fun R W h => by rw [hv3]; exact seq_any R s l 3 W (by omega) hsv h
  have HK4 : Hid (∀ R W, Rdr W R s (atAt l 4) (badAt l 4) → Calls Tryd.prog 8 #[.pointer (some ⟨R, 0, none⟩)] W fun e w' => e = .returned (.int .i64 v4) ∧ Rdr w' R s (atAt l 5) (badAt l 5) ∧ Only (fun k => k = R) W w') := fun R W h => by rw [hv4]; exact seq_any R s l 4 W (by omega) hsv h
  have HK5 : Hid (∀ R W, Rdr W R s (atAt l 5) (badAt l 5) → Calls Tryd.prog 8 #[.pointer (some ⟨R, 0, none⟩)] W fun e w' => e = .returned (.int .i64 v5) ∧ Rdr w' R s (atAt l 6) (badAt l 6) ∧ Only (fun k => k = R) W w') := fun R W h => by rw [hv5]; exact seq_any R s l 5 W (by omega) hsv h
  have HK6 : Hid (∀ R W, Rdr W R s (atAt l 6) (badAt l 6) → Calls Tryd.prog 8 #[.pointer (some ⟨R, 0, none⟩)] W fun e w' => e = .returned (.int .i64 v6) ∧ Rdr w' R s (atAt l 7) (badAt l 7) ∧ Only (fun k => k = R) W w') := fun R W h => by rw [hv6]; exact seq_any R s l 6 W (by omega) hsv h
  have HTX : Hid (∀ R W, Rdr W R s (atAt l 7) (badAt l 7) → Calls Tryd.prog 9 #[.pointer (some ⟨R, 0, none⟩)] W fun e w' => e = .returned (.string t') ∧ (∃ a', Rdr w' R s a' bb) ∧ Only (fun k => k = R) W w') := fun R W h => by rw [ht', hbb]; exact text_any R s (atAt l 7) t c (badAt l 7) W h ht
  have HB0 : Hid (badAt l 0 = false) := by show _ = _; unfold badAt; simp
  have HA0 : Hid (atAt l 0 = 0) := by show _ = _; unfold atAt pos; simp
  clear hsv ht ht' hbb HFE hv0 hv1 hv2 hv3 hv4 hv5 hv6 HS HX
  obtain ⟨z, hz⟩ : ∃ z, z = Fr.out ⟨v0, v1, v2, v3, v4, v5, v6, t'⟩ := ⟨_, rfl⟩
  rw [← hz] at HFB
  obtain ⟨v, hv⟩ : ∃ v, v = tellF T ⟨v0, v1, v2, v3, v4, v5, v6, t'⟩ bb := ⟨_, rfl⟩
  rw [← hv]
  have HV : Hid ((bb = false → (z.toList == T.toList) = true → v = Fr.told ⟨v0, v1, v2, v3, v4, v5, v6, t'⟩ 0) ∧ (bb = true ∨ (z.toList == T.toList) = false → v = Fr.none.told 3)) := by
    subst hz; subst hv
    refine ⟨fun h1 h => ?_, fun h => ?_⟩
    · unfold tellF; rw [if_pos ⟨h1, h⟩]
    · unfold tellF; rw [if_neg]; rintro ⟨h1, h2⟩; rcases h with h | h
      · rw [h] at h1; cases h1
      · rw [h] at h2; cases h2
  clear hz hv
  unfold Fr.val at HFB
  unfold Fr.told Fr.none at HV
  dsimp only at *
  obtain ⟨W2, hW2⟩ : ∃ W2, W2 = w.alloc (.cells #[.int .i64 0, .int .i64 0, .int .i64 0, .int .i64 0, .int .i64 0, .int .i64 0, .int .i64 0, .string { data := #[] }, .int .i64 0] 27) := ⟨_, rfl⟩
  have HB2 : Hid (Below w.heap.size w W2) := by rw [hW2]; exact bself' _
  have HO2 : Hid (HasRow W2 w.heap.size [.int .i64 0, .int .i64 0, .int .i64 0, .int .i64 0, .int .i64 0, .int .i64 0, .int .i64 0, .string ByteArray.empty, .int .i64 0] 27) := by rw [hW2]; exact Sha.row_new w _ _
  have hz2 : w.heap.size < W2.heap.size := by rw [hW2]; simp
  go_enter Tryd.func4, Tryd.ntmps4
  go_wp2_with fail
  rw [← hW2]
  clear hW2
  refine (HU.out _).mono ?_
  rintro e w1 ⟨rfl, hb1⟩
  have HB1 : Hid (Below w.heap.size w w1) := Mem.bstep HB2.out hb1
  have HO1 : Hid (HasRow w1 w.heap.size [.int .i64 0, .int .i64 0, .int .i64 0, .int .i64 0, .int .i64 0, .int .i64 0, .int .i64 0, .string ByteArray.empty, .int .i64 0] 27) := Sha.row_below HO2.out hb1 hz2
  have hz1 : w.heap.size < w1.heap.size := by have := hb1.size; omega
  clear hb1 HB2 HO2 hz2
  obtain ⟨R, hR⟩ : ∃ R, R = w1.heap.size + 1 := ⟨_, rfl⟩
  have hRne : ¬ R = w.heap.size := by omega
  have hRne' : ¬ w.heap.size = R := by omega
  have hRge : w.heap.size ≤ R := by omega
  have HR0 : Hid (Rdr ((w1.alloc (.cells #[.string s, .int .i64 0, .int .i64 0] 32)).alloc (.cells #[.string s, .int .i64 0, .bool false] 36)) R s (atAt l 0) (badAt l 0)) := by
    rw [HB0.out, HA0.out, hR]
    exact Sha.row_new_at _ _ _ _ (by simp)
  have HW0 : Hid (Below w.heap.size w ((w1.alloc (.cells #[.string s, .int .i64 0, .int .i64 0] 32)).alloc (.cells #[.string s, .int .i64 0, .bool false] 36))) := Mem.balloc (Mem.balloc HB1.out _) _
  have HX0 : Hid (HasRow ((w1.alloc (.cells #[.string s, .int .i64 0, .int .i64 0] 32)).alloc (.cells #[.string s, .int .i64 0, .bool false] 36)) w.heap.size [.int .i64 0, .int .i64 0, .int .i64 0, .int .i64 0, .int .i64 0, .int .i64 0, .int .i64 0, .string ByteArray.empty, .int .i64 0] 27) := Sha.row_alloc (Sha.row_alloc HO1.out _) _
  go_wp2_with fail
  rw [← hR]
  refine (HK0.out R _ HR0.out).mono ?_
  rintro e w2 ⟨rfl, hr2, ho2⟩
  have HR2 : Hid (Rdr w2 R s (atAt l 1) (badAt l 1)) := hr2
  have HB2 : Hid (Below w.heap.size w w2) := ho2.below HW0.out HW0.out.size (fun k hk e => by omega)
  have HO2 : Hid (HasRow w2 w.heap.size [.int .i64 0, .int .i64 0, .int .i64 0, .int .i64 0, .int .i64 0, .int .i64 0, .int .i64 0, .string ByteArray.empty, .int .i64 0] 27) := ho2.row HX0.out (fun e => hRne e.symm)
  have hRl : R < w2.heap.size := Rdr.lt hr2
  have hz2 : w.heap.size < w2.heap.size := by omega
  obtain ⟨G, hG⟩ : ∃ G, G = w2.heap.size := ⟨_, rfl⟩
  have hGR : ¬ G = R := by omega
  have hGR' : ¬ R = G := by omega
  have hGw : ¬ G = w.heap.size := by omega
  have hGw' : ¬ w.heap.size = G := by omega
  have hGe : w.heap.size ≤ G := by omega
  clear hr2 ho2 HR0 HW0 HX0 HK0 HB0 HA0 HB1 HO1 hz1 hR
  go_wp2_with fail
  have HFr : Hid (HasRow (w2.alloc (.cells #[.int .i64 v0, .int .i64 0, .int .i64 0, .int .i64 0, .int .i64 0, .int .i64 0, .int .i64 0, .string { data := #[] }] 25)) G [.int .i64 v0, .int .i64 0, .int .i64 0, .int .i64 0, .int .i64 0, .int .i64 0, .int .i64 0, .string ByteArray.empty] 25) := by rw [hG]; exact Sha.row_new _ _ _
  rw [← hG]
  have HRr : Hid (Rdr (w2.alloc (.cells #[.int .i64 v0, .int .i64 0, .int .i64 0, .int .i64 0, .int .i64 0, .int .i64 0, .int .i64 0, .string { data := #[] }] 25)) R s (atAt l 1) (badAt l 1)) := Sha.row_alloc HR2.out _
  have HBr : Hid (Below w.heap.size w (w2.alloc (.cells #[.int .i64 v0, .int .i64 0, .int .i64 0, .int .i64 0, .int .i64 0, .int .i64 0, .int .i64 0, .string { data := #[] }] 25))) := Mem.balloc HB2.out _
  have HOr : Hid (HasRow (w2.alloc (.cells #[.int .i64 v0, .int .i64 0, .int .i64 0, .int .i64 0, .int .i64 0, .int .i64 0, .int .i64 0, .string { data := #[] }] 25)) w.heap.size [.int .i64 0, .int .i64 0, .int .i64 0, .int .i64 0, .int .i64 0, .int .i64 0, .int .i64 0, .string ByteArray.empty, .int .i64 0] 27) := Sha.row_alloc HO2.out _
  clear HR2 HB2 HO2 hG
  refine (HK1.out R _ HRr.out).mono ?_
  rintro e w3 ⟨rfl, hr, ho⟩
  have HRn : Hid (Rdr w3 R s (atAt l 2) (badAt l 2)) := hr
  have HBn : Hid (Below w.heap.size w w3) := ho.below HBr.out HBr.out.size (fun k hk e => by omega)
  have HOn : Hid (HasRow w3 w.heap.size [.int .i64 0, .int .i64 0, .int .i64 0, .int .i64 0, .int .i64 0, .int .i64 0, .int .i64 0, .string ByteArray.empty, .int .i64 0] 27) := ho.row HOr.out (fun e => hRne e.symm)
  have HFn : Hid (HasRow w3 G [.int .i64 v0, .int .i64 0, .int .i64 0, .int .i64 0, .int .i64 0, .int .i64 0, .int .i64 0, .string ByteArray.empty] 25) := ho.row HFr.out hGR
  clear hr ho HRr HBr HOr HFr HK1
  have fc : w3.cell? ⟨G, 1, none⟩ = some (.int .i64 0) := Mem.cell_of_row HFn.out 1
  have ff : w3.frozen? ⟨G, 1, none⟩ = false := Mem.frozen_of_row HFn.out 1
  have HRr : Hid (Rdr (w3.setCell ⟨G, 1, none⟩ (.int .i64 v1)) R s (atAt l 2) (badAt l 2)) := Sha.row_other HRn.out _ _ hGR'
  have HBr : Hid (Below w.heap.size w (w3.setCell ⟨G, 1, none⟩ (.int .i64 v1))) := HBn.out.setCell hGe _
  have HOr : Hid (HasRow (w3.setCell ⟨G, 1, none⟩ (.int .i64 v1)) w.heap.size [.int .i64 0, .int .i64 0, .int .i64 0, .int .i64 0, .int .i64 0, .int .i64 0, .int .i64 0, .string ByteArray.empty, .int .i64 0] 27) := Sha.row_other HOn.out _ _ hGw'
  have HFr : Hid (HasRow (w3.setCell ⟨G, 1, none⟩ (.int .i64 v1)) G [.int .i64 v0, .int .i64 v1, .int .i64 0, .int .i64 0, .int .i64 0, .int .i64 0, .int .i64 0, .string ByteArray.empty] 25) := row_set HFn.out 1 _
  clear HRn HBn HOn HFn
  go_wp2_with fail
  clear fc ff
  refine (HK2.out R _ HRr.out).mono ?_
  rintro e w4 ⟨rfl, hr, ho⟩
  have HRn : Hid (Rdr w4 R s (atAt l 3) (badAt l 3)) := hr
  have HBn : Hid (Below w.heap.size w w4) := ho.below HBr.out HBr.out.size (fun k hk e => by omega)
  have HOn : Hid (HasRow w4 w.heap.size [.int .i64 0, .int .i64 0, .int .i64 0, .int .i64 0, .int .i64 0, .int .i64 0, .int .i64 0, .string ByteArray.empty, .int .i64 0] 27) := ho.row HOr.out (fun e => hRne e.symm)
  have HFn : Hid (HasRow w4 G [.int .i64 v0, .int .i64 v1, .int .i64 0, .int .i64 0, .int .i64 0, .int .i64 0, .int .i64 0, .string ByteArray.empty] 25) := ho.row HFr.out hGR
  clear hr ho HRr HBr HOr HFr HK2
  have fc : w4.cell? ⟨G, 2, none⟩ = some (.int .i64 0) := Mem.cell_of_row HFn.out 2
  have ff : w4.frozen? ⟨G, 2, none⟩ = false := Mem.frozen_of_row HFn.out 2
  have HRr : Hid (Rdr (w4.setCell ⟨G, 2, none⟩ (.int .i64 v2)) R s (atAt l 3) (badAt l 3)) := Sha.row_other HRn.out _ _ hGR'
  have HBr : Hid (Below w.heap.size w (w4.setCell ⟨G, 2, none⟩ (.int .i64 v2))) := HBn.out.setCell hGe _
  have HOr : Hid (HasRow (w4.setCell ⟨G, 2, none⟩ (.int .i64 v2)) w.heap.size [.int .i64 0, .int .i64 0, .int .i64 0, .int .i64 0, .int .i64 0, .int .i64 0, .int .i64 0, .string ByteArray.empty, .int .i64 0] 27) := Sha.row_other HOn.out _ _ hGw'
  have HFr : Hid (HasRow (w4.setCell ⟨G, 2, none⟩ (.int .i64 v2)) G [.int .i64 v0, .int .i64 v1, .int .i64 v2, .int .i64 0, .int .i64 0, .int .i64 0, .int .i64 0, .string ByteArray.empty] 25) := row_set HFn.out 2 _
  clear HRn HBn HOn HFn
  go_wp2_with fail
  clear fc ff
  refine (HK3.out R _ HRr.out).mono ?_
  rintro e w5 ⟨rfl, hr, ho⟩
  have HRn : Hid (Rdr w5 R s (atAt l 4) (badAt l 4)) := hr
  have HBn : Hid (Below w.heap.size w w5) := ho.below HBr.out HBr.out.size (fun k hk e => by omega)
  have HOn : Hid (HasRow w5 w.heap.size [.int .i64 0, .int .i64 0, .int .i64 0, .int .i64 0, .int .i64 0, .int .i64 0, .int .i64 0, .string ByteArray.empty, .int .i64 0] 27) := ho.row HOr.out (fun e => hRne e.symm)
  have HFn : Hid (HasRow w5 G [.int .i64 v0, .int .i64 v1, .int .i64 v2, .int .i64 0, .int .i64 0, .int .i64 0, .int .i64 0, .string ByteArray.empty] 25) := ho.row HFr.out hGR
  clear hr ho HRr HBr HOr HFr HK3
  have fc : w5.cell? ⟨G, 3, none⟩ = some (.int .i64 0) := Mem.cell_of_row HFn.out 3
  have ff : w5.frozen? ⟨G, 3, none⟩ = false := Mem.frozen_of_row HFn.out 3
  have HRr : Hid (Rdr (w5.setCell ⟨G, 3, none⟩ (.int .i64 v3)) R s (atAt l 4) (badAt l 4)) := Sha.row_other HRn.out _ _ hGR'
  have HBr : Hid (Below w.heap.size w (w5.setCell ⟨G, 3, none⟩ (.int .i64 v3))) := HBn.out.setCell hGe _
  have HOr : Hid (HasRow (w5.setCell ⟨G, 3, none⟩ (.int .i64 v3)) w.heap.size [.int .i64 0, .int .i64 0, .int .i64 0, .int .i64 0, .int .i64 0, .int .i64 0, .int .i64 0, .string ByteArray.empty, .int .i64 0] 27) := Sha.row_other HOn.out _ _ hGw'
  have HFr : Hid (HasRow (w5.setCell ⟨G, 3, none⟩ (.int .i64 v3)) G [.int .i64 v0, .int .i64 v1, .int .i64 v2, .int .i64 v3, .int .i64 0, .int .i64 0, .int .i64 0, .string ByteArray.empty] 25) := row_set HFn.out 3 _
  clear HRn HBn HOn HFn
  go_wp2_with fail
  clear fc ff
  refine (HK4.out R _ HRr.out).mono ?_
  rintro e w6 ⟨rfl, hr, ho⟩
  have HRn : Hid (Rdr w6 R s (atAt l 5) (badAt l 5)) := hr
  have HBn : Hid (Below w.heap.size w w6) := ho.below HBr.out HBr.out.size (fun k hk e => by omega)
  have HOn : Hid (HasRow w6 w.heap.size [.int .i64 0, .int .i64 0, .int .i64 0, .int .i64 0, .int .i64 0, .int .i64 0, .int .i64 0, .string ByteArray.empty, .int .i64 0] 27) := ho.row HOr.out (fun e => hRne e.symm)
  have HFn : Hid (HasRow w6 G [.int .i64 v0, .int .i64 v1, .int .i64 v2, .int .i64 v3, .int .i64 0, .int .i64 0, .int .i64 0, .string ByteArray.empty] 25) := ho.row HFr.out hGR
  clear hr ho HRr HBr HOr HFr HK4
  have fc : w6.cell? ⟨G, 4, none⟩ = some (.int .i64 0) := Mem.cell_of_row HFn.out 4
  have ff : w6.frozen? ⟨G, 4, none⟩ = false := Mem.frozen_of_row HFn.out 4
  have HRr : Hid (Rdr (w6.setCell ⟨G, 4, none⟩ (.int .i64 v4)) R s (atAt l 5) (badAt l 5)) := Sha.row_other HRn.out _ _ hGR'
  have HBr : Hid (Below w.heap.size w (w6.setCell ⟨G, 4, none⟩ (.int .i64 v4))) := HBn.out.setCell hGe _
  have HOr : Hid (HasRow (w6.setCell ⟨G, 4, none⟩ (.int .i64 v4)) w.heap.size [.int .i64 0, .int .i64 0, .int .i64 0, .int .i64 0, .int .i64 0, .int .i64 0, .int .i64 0, .string ByteArray.empty, .int .i64 0] 27) := Sha.row_other HOn.out _ _ hGw'
  have HFr : Hid (HasRow (w6.setCell ⟨G, 4, none⟩ (.int .i64 v4)) G [.int .i64 v0, .int .i64 v1, .int .i64 v2, .int .i64 v3, .int .i64 v4, .int .i64 0, .int .i64 0, .string ByteArray.empty] 25) := row_set HFn.out 4 _
  clear HRn HBn HOn HFn
  go_wp2_with fail
  clear fc ff
  refine (HK5.out R _ HRr.out).mono ?_
  rintro e w7 ⟨rfl, hr, ho⟩
  have HRn : Hid (Rdr w7 R s (atAt l 6) (badAt l 6)) := hr
  have HBn : Hid (Below w.heap.size w w7) := ho.below HBr.out HBr.out.size (fun k hk e => by omega)
  have HOn : Hid (HasRow w7 w.heap.size [.int .i64 0, .int .i64 0, .int .i64 0, .int .i64 0, .int .i64 0, .int .i64 0, .int .i64 0, .string ByteArray.empty, .int .i64 0] 27) := ho.row HOr.out (fun e => hRne e.symm)
  have HFn : Hid (HasRow w7 G [.int .i64 v0, .int .i64 v1, .int .i64 v2, .int .i64 v3, .int .i64 v4, .int .i64 0, .int .i64 0, .string ByteArray.empty] 25) := ho.row HFr.out hGR
  clear hr ho HRr HBr HOr HFr HK5
  have fc : w7.cell? ⟨G, 5, none⟩ = some (.int .i64 0) := Mem.cell_of_row HFn.out 5
  have ff : w7.frozen? ⟨G, 5, none⟩ = false := Mem.frozen_of_row HFn.out 5
  have HRr : Hid (Rdr (w7.setCell ⟨G, 5, none⟩ (.int .i64 v5)) R s (atAt l 6) (badAt l 6)) := Sha.row_other HRn.out _ _ hGR'
  have HBr : Hid (Below w.heap.size w (w7.setCell ⟨G, 5, none⟩ (.int .i64 v5))) := HBn.out.setCell hGe _
  have HOr : Hid (HasRow (w7.setCell ⟨G, 5, none⟩ (.int .i64 v5)) w.heap.size [.int .i64 0, .int .i64 0, .int .i64 0, .int .i64 0, .int .i64 0, .int .i64 0, .int .i64 0, .string ByteArray.empty, .int .i64 0] 27) := Sha.row_other HOn.out _ _ hGw'
  have HFr : Hid (HasRow (w7.setCell ⟨G, 5, none⟩ (.int .i64 v5)) G [.int .i64 v0, .int .i64 v1, .int .i64 v2, .int .i64 v3, .int .i64 v4, .int .i64 v5, .int .i64 0, .string ByteArray.empty] 25) := row_set HFn.out 5 _
  clear HRn HBn HOn HFn
  go_wp2_with fail
  clear fc ff
  refine (HK6.out R _ HRr.out).mono ?_
  rintro e w8 ⟨rfl, hr, ho⟩
  have HRn : Hid (Rdr w8 R s (atAt l 7) (badAt l 7)) := hr
  have HBn : Hid (Below w.heap.size w w8) := ho.below HBr.out HBr.out.size (fun k hk e => by omega)
  have HOn : Hid (HasRow w8 w.heap.size [.int .i64 0, .int .i64 0, .int .i64 0, .int .i64 0, .int .i64 0, .int .i64 0, .int .i64 0, .string ByteArray.empty, .int .i64 0] 27) := ho.row HOr.out (fun e => hRne e.symm)
  have HFn : Hid (HasRow w8 G [.int .i64 v0, .int .i64 v1, .int .i64 v2, .int .i64 v3, .int .i64 v4, .int .i64 v5, .int .i64 0, .string ByteArray.empty] 25) := ho.row HFr.out hGR
  clear hr ho HRr HBr HOr HFr HK6
  have fc : w8.cell? ⟨G, 6, none⟩ = some (.int .i64 0) := Mem.cell_of_row HFn.out 6
  have ff : w8.frozen? ⟨G, 6, none⟩ = false := Mem.frozen_of_row HFn.out 6
  have HRr : Hid (Rdr (w8.setCell ⟨G, 6, none⟩ (.int .i64 v6)) R s (atAt l 7) (badAt l 7)) := Sha.row_other HRn.out _ _ hGR'
  have HBr : Hid (Below w.heap.size w (w8.setCell ⟨G, 6, none⟩ (.int .i64 v6))) := HBn.out.setCell hGe _
  have HOr : Hid (HasRow (w8.setCell ⟨G, 6, none⟩ (.int .i64 v6)) w.heap.size [.int .i64 0, .int .i64 0, .int .i64 0, .int .i64 0, .int .i64 0, .int .i64 0, .int .i64 0, .string ByteArray.empty, .int .i64 0] 27) := Sha.row_other HOn.out _ _ hGw'
  have HFr : Hid (HasRow (w8.setCell ⟨G, 6, none⟩ (.int .i64 v6)) G [.int .i64 v0, .int .i64 v1, .int .i64 v2, .int .i64 v3, .int .i64 v4, .int .i64 v5, .int .i64 v6, .string ByteArray.empty] 25) := row_set HFn.out 6 _
  clear HRn HBn HOn HFn
  go_wp2_with fail
  clear fc ff
  refine (HTX.out R _ HRr.out).mono ?_
  rintro e W ⟨rfl, ⟨a', hr⟩, ho⟩
  have HRn : Hid (Rdr W R s a' bb) := hr
  have HBn : Hid (Below w.heap.size w W) := ho.below HBr.out HBr.out.size (fun k hk e => by omega)
  have HOn : Hid (HasRow W w.heap.size [.int .i64 0, .int .i64 0, .int .i64 0, .int .i64 0, .int .i64 0, .int .i64 0, .int .i64 0, .string ByteArray.empty, .int .i64 0] 27) := ho.row HOr.out (fun e => hRne e.symm)
  have HFn : Hid (HasRow W G [.int .i64 v0, .int .i64 v1, .int .i64 v2, .int .i64 v3, .int .i64 v4, .int .i64 v5, .int .i64 v6, .string ByteArray.empty] 25) := ho.row HFr.out hGR
  clear hr ho HRr HBr HOr HFr HTX
  have r2 : W.cell? ⟨R, 2, none⟩ = some (.bool bb) := Mem.cell_of_row HRn.out 2
  have fc : W.cell? ⟨G, 7, none⟩ = some (.string ByteArray.empty) := Mem.cell_of_row HFn.out 7
  have ff : W.frozen? ⟨G, 7, none⟩ = false := Mem.frozen_of_row HFn.out 7
  have HRr : Hid (Rdr (W.setCell ⟨G, 7, none⟩ (.string t')) R s a' bb) := Sha.row_other HRn.out _ _ hGR'
  have HBr : Hid (Below w.heap.size w (W.setCell ⟨G, 7, none⟩ (.string t'))) := HBn.out.setCell hGe _
  have HOr : Hid (HasRow (W.setCell ⟨G, 7, none⟩ (.string t')) w.heap.size [.int .i64 0, .int .i64 0, .int .i64 0, .int .i64 0, .int .i64 0, .int .i64 0, .int .i64 0, .string ByteArray.empty, .int .i64 0] 27) := Sha.row_other HOn.out _ _ hGw'
  have HFr : Hid (HasRow (W.setCell ⟨G, 7, none⟩ (.string t')) G [.int .i64 v0, .int .i64 v1, .int .i64 v2, .int .i64 v3, .int .i64 v4, .int .i64 v5, .int .i64 v6, .string t'] 25) := row_set HFn.out 7 _
  have f0 : W.cell? ⟨G, 0, none⟩ = some (.int .i64 v0) := Mem.cell_of_row HFn.out 0
  have f1 : W.cell? ⟨G, 1, none⟩ = some (.int .i64 v1) := Mem.cell_of_row HFn.out 1
  have f2 : W.cell? ⟨G, 2, none⟩ = some (.int .i64 v2) := Mem.cell_of_row HFn.out 2
  have f3 : W.cell? ⟨G, 3, none⟩ = some (.int .i64 v3) := Mem.cell_of_row HFn.out 3
  have f4 : W.cell? ⟨G, 4, none⟩ = some (.int .i64 v4) := Mem.cell_of_row HFn.out 4
  have f5 : W.cell? ⟨G, 5, none⟩ = some (.int .i64 v5) := Mem.cell_of_row HFn.out 5
  have f6 : W.cell? ⟨G, 6, none⟩ = some (.int .i64 v6) := Mem.cell_of_row HFn.out 6
  have hO := HOn.out
  have o0 : W.cell? ⟨w.heap.size, 0, none⟩ = some (.int .i64 0) := Mem.cell_of_row hO 0
  have o1 : W.cell? ⟨w.heap.size, 1, none⟩ = some (.int .i64 0) := Mem.cell_of_row hO 1
  have o2 : W.cell? ⟨w.heap.size, 2, none⟩ = some (.int .i64 0) := Mem.cell_of_row hO 2
  have o3 : W.cell? ⟨w.heap.size, 3, none⟩ = some (.int .i64 0) := Mem.cell_of_row hO 3
  have o4 : W.cell? ⟨w.heap.size, 4, none⟩ = some (.int .i64 0) := Mem.cell_of_row hO 4
  have o5 : W.cell? ⟨w.heap.size, 5, none⟩ = some (.int .i64 0) := Mem.cell_of_row hO 5
  have o6 : W.cell? ⟨w.heap.size, 6, none⟩ = some (.int .i64 0) := Mem.cell_of_row hO 6
  have o7 : W.cell? ⟨w.heap.size, 7, none⟩ = some (.string ByteArray.empty) := Mem.cell_of_row hO 7
  have o8 : W.cell? ⟨w.heap.size, 8, none⟩ = some (.int .i64 0) := Mem.cell_of_row hO 8
  have of : ∀ o, W.frozen? ⟨w.heap.size, o, none⟩ = false := Mem.frozen_of_row hO
  have g1 : ¬ w.heap.size = W.heap.size := by have := World.block_lt_of_cell? W ⟨R, 2, none⟩ r2; simp only at this; omega
  have g2 : ¬ W.heap.size = w.heap.size := by have := World.block_lt_of_cell? W ⟨R, 2, none⟩ r2; simp only at this; omega
  have g3 : w.heap.size < W.heap.size := by have := World.block_lt_of_cell? W ⟨R, 2, none⟩ r2; simp only at this; omega
  have hGl : G < W.heap.size := World.block_lt_of_cell? W ⟨G, 7, none⟩ fc
  clear HRr HRn HBn HOn HFn hO
  cases bb
  · go_wp2_with fail
    refine (HFB.out _).mono ?_
    rintro e W9 ⟨rfl, hb9⟩
    have HB9 : Hid (Below w.heap.size w W9) := Mem.bstep HBr.out hb9
    have hO9 : HasRow W9 w.heap.size [.int .i64 0, .int .i64 0, .int .i64 0, .int .i64 0, .int .i64 0, .int .i64 0, .int .i64 0, .string ByteArray.empty, .int .i64 0] 27 := Sha.row_below HOr.out hb9 (by simpa using g3)
    have hF9 : HasRow W9 G [.int .i64 v0, .int .i64 v1, .int .i64 v2, .int .i64 v3, .int .i64 v4, .int .i64 v5, .int .i64 v6, .string t'] 25 := Sha.row_below HFr.out hb9 (by simpa using hGl)
    clear o0 o1 o2 o3 o4 o5 o6 o7 o8 of ff fc f0 f1 f2 f3 f4 f5 f6 g1 g2 r2
    have hO := hO9
    have o0 : W9.cell? ⟨w.heap.size, 0, none⟩ = some (.int .i64 0) := Mem.cell_of_row hO 0
    have o1 : W9.cell? ⟨w.heap.size, 1, none⟩ = some (.int .i64 0) := Mem.cell_of_row hO 1
    have o2 : W9.cell? ⟨w.heap.size, 2, none⟩ = some (.int .i64 0) := Mem.cell_of_row hO 2
    have o3 : W9.cell? ⟨w.heap.size, 3, none⟩ = some (.int .i64 0) := Mem.cell_of_row hO 3
    have o4 : W9.cell? ⟨w.heap.size, 4, none⟩ = some (.int .i64 0) := Mem.cell_of_row hO 4
    have o5 : W9.cell? ⟨w.heap.size, 5, none⟩ = some (.int .i64 0) := Mem.cell_of_row hO 5
    have o6 : W9.cell? ⟨w.heap.size, 6, none⟩ = some (.int .i64 0) := Mem.cell_of_row hO 6
    have o7 : W9.cell? ⟨w.heap.size, 7, none⟩ = some (.string ByteArray.empty) := Mem.cell_of_row hO 7
    have o8 : W9.cell? ⟨w.heap.size, 8, none⟩ = some (.int .i64 0) := Mem.cell_of_row hO 8
    have of : ∀ o, W9.frozen? ⟨w.heap.size, o, none⟩ = false := Mem.frozen_of_row hO
    have f0 : W9.cell? ⟨G, 0, none⟩ = some (.int .i64 v0) := Mem.cell_of_row hF9 0
    have f1 : W9.cell? ⟨G, 1, none⟩ = some (.int .i64 v1) := Mem.cell_of_row hF9 1
    have f2 : W9.cell? ⟨G, 2, none⟩ = some (.int .i64 v2) := Mem.cell_of_row hF9 2
    have f3 : W9.cell? ⟨G, 3, none⟩ = some (.int .i64 v3) := Mem.cell_of_row hF9 3
    have f4 : W9.cell? ⟨G, 4, none⟩ = some (.int .i64 v4) := Mem.cell_of_row hF9 4
    have f5 : W9.cell? ⟨G, 5, none⟩ = some (.int .i64 v5) := Mem.cell_of_row hF9 5
    have f6 : W9.cell? ⟨G, 6, none⟩ = some (.int .i64 v6) := Mem.cell_of_row hF9 6
    have f7 : W9.cell? ⟨G, 7, none⟩ = some (.string t') := Mem.cell_of_row hF9 7
    clear hb9 hO hO9 hF9 HOr HFr HBr HFB g3
    cases hq : (z.toList == T.toList)
    · have HV' : Hid _ := HV.out.2 (.inr hq)
      clear HV
      have HV : Hid (v = _) := HV'
      clear HV'
      go_wp2
      exact bodyPost_ret (v := .agg #[.int .i64 0, .int .i64 0, .int .i64 0, .int .i64 0, .int .i64 0, .int .i64 0, .int .i64 0, .string ByteArray.empty, .int .i64 3]) (by simp [results, Tryd.results4, go_sem, o0, o1, o2, o3, o4, o5, o6, o7, o8]; rfl) rfl ⟨by rw [HV.out], by
        iterate 9 refine Below.setCell (p := ⟨w.heap.size, _, none⟩) ?_ (by simp) _
        exact HB9.out⟩
    · have HV' : Hid _ := HV.out.1 (by simp) hq
      clear HV
      have HV : Hid (v = _) := HV'
      clear HV'
      go_wp2
      exact bodyPost_ret (v := .agg #[.int .i64 v0, .int .i64 v1, .int .i64 v2, .int .i64 v3, .int .i64 v4, .int .i64 v5, .int .i64 v6, .string t', .int .i64 0]) (by simp [results, Tryd.results4, go_sem, o0, o1, o2, o3, o4, o5, o6, o7, o8]) rfl ⟨by rw [HV.out], by
        iterate 9 refine Below.setCell (p := ⟨w.heap.size, _, none⟩) ?_ (by simp) _
        exact HB9.out⟩
  · have HV' : Hid _ := HV.out.2 (.inl rfl)
    clear HV HFB
    have HV : Hid (v = _) := HV'
    clear HV'
    go_wp2
    exact bodyPost_ret (v := .agg #[.int .i64 0, .int .i64 0, .int .i64 0, .int .i64 0, .int .i64 0, .int .i64 0, .int .i64 0, .string ByteArray.empty, .int .i64 3]) (by simp [results, Tryd.results4, go_sem, o0, o1, o2, o3, o4, o5, o6, o7, o8]; rfl) rfl ⟨by rw [HV.out], by
      iterate 9 refine Below.setCell (p := ⟨w.heap.size, _, none⟩) ?_ (by simp) _
      exact HBr.out⟩
end Go.Proofs.YtkanhjafchiikaaDoor.Frm
