/- What the program reads of a frame. -/
import Derived.Test.YtkanhjafchiikaaDoorTextsD
import Derived.Test.YtkanhjafchiikaaDoorImplFB
import Derived.BigRegion
import Derived.Laws.StructEq
namespace Go.Proofs.YtkanhjafchiikaaDoor.Frm
open Go.RowKit Go.Proofs.YtkanhjafchiikaaDoor.Mem Go.Proofs.YtkanhjafchiikaaDoor.Gf Go.Proofs.YtkanhjafchiikaaDoor.Harn Go.Proofs.YtkanhjafchiikaaDoor.GetText Go.Proofs.YtkanhjafchiikaaDoor.GetNum

theorem fldT0 (a : ByteArray) (y z : Int) (w : World) : (Instr.field 32 (.agg #[.string a, .int .i64 y, .int .i64 z]) 0).run Tryd.prog w = .ok (.string a) w := by kernel_rfl
theorem shutI {p : Prop} (h : p) : Hid p := h
/-- the cells of a frame of which the first k numbers are read -/
def partC (l : List (Int × Int)) (k : Nat) : List Value := slots (fun j => .int .i64 (valAt l j)) (.int .i64 0) 7 k ++ [.string ByteArray.empty]
theorem partC_len (l : List (Int × Int)) (k : Nat) : (partC l k).length = 8 := by simp [partC, slots]
theorem partC_start (l : List (Int × Int)) : partC l 0 = [.int .i64 0, .int .i64 0, .int .i64 0, .int .i64 0, .int .i64 0, .int .i64 0, .int .i64 0, .string ByteArray.empty] := by unfold partC; rw [slots_start]; rfl
theorem partC_at (l : List (Int × Int)) (k : Nat) (h : k < 7) : (partC l k)[k]? = some (.int .i64 0) := by
  unfold partC
  rw [List.getElem?_append_left (by simp [slots]; exact h)]
  exact slots_at _ _ _ _ h
theorem partC_set (l : List (Int × Int)) (k : Nat) (h : k < 7) : (partC l k).set k (.int .i64 (valAt l k)) = partC l (k + 1) := by
  unfold partC
  rw [List.set_append_left _ _ (by simp [slots]; exact h), slots_set (fun j => .int .i64 (valAt l j))]
theorem partC_end (l : List (Int × Int)) (t : ByteArray) : (partC l 7).set 7 (.string t) = (readF l t).cells := rfl
set_option maxRecDepth 100000 in
set_option maxHeartbeats 2000000 in
theorem readFrame_any (s : ByteArray) (l : List (Int × Int)) (t : ByteArray) (c : Int) (w : World) (hs : s.size ≤ 8000) (hL : Laid w) (hv : Sev s l) (ht : Txt s (atAt l 7) t c) :
    Calls Tryd.prog 12 #[.string s] w fun e w' => e = .returned (gotF l t).val ∧ Below w.heap.size w w' := by
  have HLD : Hid (∀ W, Below w.heap.size w W → Laid W) := fun W hB => laid_below hL hB
  have HSV : Hid (Sev s l) := hv
  have HNUM : Hid (∀ k W, k < l.length → k < 7 → Below w.heap.size w W → Gets 24 s (atAt l k) (valAt l k) (atAt l (k + 1)) 0 W) := fun k W h1 h2 hB => by
    obtain ⟨n, p, c, hn, hy, _⟩ := hv.at k h2
    obtain ⟨rfl, rfl, rfl⟩ := hy h1
    exact hn.im W (laid_below hL hB)
  have HNO : Hid (∀ W, l.length < 7 → Below w.heap.size w W → ∃ n p c, c ≠ 0 ∧ Gets 24 s (atAt l l.length) n p c W) := fun W h hB => by
    obtain ⟨n, p, c, hn, _, hz⟩ := hv.at l.length h
    exact ⟨n, p, c, (hz (Nat.le_refl _)).1, hn.im W (laid_below hL hB)⟩
  obtain ⟨pt, him⟩ := ht.im
  have HTX : Hid (∀ W, Below w.heap.size w W → Texts 25 s (atAt l 7) t pt c W) := fun W hB => him W (laid_below hL hB)
  have hl7 : l.length ≤ 7 := by rcases hv.end_ with h | h <;> omega
  have HAB : Hid (∀ k, 0 ≤ atAt l k ∧ atAt l k ≤ 8000) := fun k => by
    unfold atAt; exact pos_bd hv.run hs _ (Nat.min_le_right _ _)
  have HA0 : Hid (atAt l 0 = 0) := by show _ = _; unfold atAt pos; simp
  clear hv ht him hL
  obtain ⟨W2, hW2⟩ : ∃ W2, W2 = (w.alloc (.cells #[.int .i64 0, .int .i64 0, .int .i64 0, .int .i64 0, .int .i64 0, .int .i64 0, .int .i64 0, .string { data := #[] }] 25)).alloc (.cells #[.int .i64 0, .int .i64 0, .int .i64 0, .int .i64 0, .int .i64 0, .int .i64 0, .int .i64 0, .string { data := #[] }] 25) := ⟨_, rfl⟩
  have HBW2 : Hid (Below w.heap.size w W2) := by rw [hW2]; exact Mem.balloc (bself' _) _
  have HOUT : Hid (HasRow W2 w.heap.size (partC l 0) 25) := by rw [hW2, partC_start]; exact Sha.row_alloc (Sha.row_new w _ _) _
  have HFR : Hid (HasRow W2 (w.heap.size + 1) (partC l 0) 25) := by rw [hW2, partC_start]; exact Sha.row_new_at _ _ _ _ (by simp)
  have hz2 : w.heap.size + 1 < W2.heap.size := by rw [hW2]; simp
  go_enter Tryd.func12, Tryd.ntmps12
  go_wp2_with fail
  rw [← hW2]
  clear hW2
  refine (numbersOf_any (w.heap.size + 1) _).mono ?_
  rintro e w3 ⟨rfl, hrow, hb3⟩
  obtain ⟨Rp, hRp⟩ : ∃ Rp, Rp = W2.heap.size := ⟨_, rfl⟩
  have HB3 : Hid (Below w.heap.size w w3) := Mem.bstep HBW2.out hb3
  have HO3 : Hid (HasRow w3 w.heap.size (partC l 0) 25) := Sha.row_below HOUT.out hb3 (by omega)
  have HF3 : Hid (HasRow w3 (w.heap.size + 1) (partC l 0) 25) := Sha.row_below HFR.out hb3 hz2
  have hz3 : w.heap.size + 1 < w3.heap.size := by have := hb3.size; omega
  rw [← hRp] at hrow ⊢
  have HP3 : Hid (HasRow w3 Rp (ptrs (w.heap.size + 1)) 54) := hrow
  have hpl : w.heap.size + 1 < Rp := by omega
  clear hb3 hrow hRp HBW2 HOUT HFR hz2
  go_wp2
  go_loopw [4, 10] (fun av i wr => ∃ k : Nat, k ≤ l.length ∧ i = .int .i64 k ∧ av = .int .i64 (atAt l k) ∧ HasRow wr w.heap.size (partC l 0) 25 ∧ HasRow wr (w.heap.size + 1) (partC l k) 25 ∧ HasRow wr Rp (ptrs (w.heap.size + 1)) 54 ∧ Below w.heap.size w wr ∧ w.heap.size + 1 < wr.heap.size) (fun _ i _ => 7 - (intOf i).toNat)
  case atStart => exact ⟨0, by omega, rfl, by rw [HA0.out], HO3.out, HF3.out, HP3.out, HB3.out, hz3⟩
  case round =>
    obtain ⟨k, hk, rfl, rfl, ho, hf, hp, hbel, hzr⟩ := hrel
    have HO : Hid (HasRow wr w.heap.size (partC l 0) 25) := ho
    have HF : Hid (HasRow wr (w.heap.size + 1) (partC l k) 25) := hf
    have HP : Hid (HasRow wr Rp (ptrs (w.heap.size + 1)) 54) := hp
    have HB : Hid (Below w.heap.size w wr) := hbel
    clear ho hf hp hbel HO3 HF3 HP3 HB3
    by_cases h7 : k < 7
    · have p1 : (k : Int) < 7 := by omega
      have p0 : (0 : Int) ≤ (k : Int) := by omega
      have c1 : wr.cell? ⟨Rp, k, none⟩ = some (.pointer (some ⟨w.heap.size + 1, k, none⟩)) := (Mem.cell_of_row HP.out k).trans (ptrs_at _ k h7)
      by_cases hkl : k < l.length
      · have HG : Hid (Gets 24 s (atAt l k) (valAt l k) (atAt l (k + 1)) 0 wr) := HNUM.out k wr hkl h7 HB.out
        have HPS : Hid ((partC l k).set k (.int .i64 (valAt l k)) = partC l (k + 1)) := partC_set l k h7
        have HPA : Hid ((partC l k)[k]? = some (.int .i64 0)) := partC_at l k h7
        generalize valAt l k = n at *
        generalize epn : partC l (k + 1) = pn at *
        have HPN : Hid (partC l (k + 1) = pn) := epn
        clear epn
        generalize partC l k = pk at *
        generalize atAt l k = ak at *
        generalize ean : atAt l (k + 1) = an at *
        have HAN : Hid (atAt l (k + 1) = an) := ean
        clear ean
        go_wp2_with fail
        refine HG.out.mono ?_
        rintro e w4 ⟨rfl, hb4⟩
        have HB4 : Hid (Below w.heap.size w w4) := Mem.bstep HB.out hb4
        have HO4 : Hid (HasRow w4 w.heap.size (partC l 0) 25) := Sha.row_below HO.out hb4 (by omega)
        have HF4 : Hid (HasRow w4 (w.heap.size + 1) pk 25) := Sha.row_below HF.out hb4 hzr
        have HP4 : Hid (HasRow w4 Rp (ptrs (w.heap.size + 1)) 54) := Sha.row_below HP.out hb4 (World.block_lt_of_cell? wr ⟨Rp, k, none⟩ c1)
        have hz4 : w.heap.size + 1 < w4.heap.size := by have := hb4.size; omega
        have k0 : w4.cell? ⟨w.heap.size + 1, k, none⟩ = some (.int .i64 0) := (Mem.cell_of_row HF4.out k).trans HPA.out
        have kf : w4.frozen? ⟨w.heap.size + 1, k, none⟩ = false := Mem.frozen_of_row HF4.out k
        clear hb4 c1
        go_wp2_with fail
        go_region
        all_goals
          go_wp2
          go_roundw
          case rel =>
            have hB5 := HB4.out.setCell (p := ⟨w.heap.size + 1, k, none⟩) (by simp) (.int .i64 n)
            have ho5 := Sha.row_other HO4.out ⟨w.heap.size + 1, k, none⟩ (.int .i64 n) (by show _ ≠ _; simp; try omega)
            have hp5 := Sha.row_other HP4.out ⟨w.heap.size + 1, k, none⟩ (.int .i64 n) (by show _ ≠ _; simp; try omega)
            have hf5 := row_set HF4.out k (.int .i64 n)
            rw [HPS.out] at hf5
            rw [← HAN.out]
            rw [← HPN.out] at hf5
            refine ⟨k + 1, by omega, rfl, rfl, ?_, ?_, ?_, ?_, ?_⟩
            · exact Sha.row_alloc ho5 _
            · exact Sha.row_alloc hf5 _
            · exact Sha.row_alloc hp5 _
            · exact Sha.bel_drewN (Mem.balloc hB5 _) 1
            · simp; omega
          case measure => simp [intOf]; omega
      · obtain rfl : k = l.length := by omega
        obtain ⟨n, p, cc, hcc, hg⟩ := HNO.out wr h7 HB.out
        have HG : Hid (Gets 24 s (atAt l l.length) n p cc wr) := hg
        have e1 : (cc != 0) = true := bne_iff_ne.2 hcc
        have HE : Hid (gotF l t = ⟨0, 0, 0, 0, 0, 0, 0, ByteArray.empty⟩) := by
          show _ = _
          unfold gotF; rw [if_neg (by omega)]
        clear hg hcc
        go_wp2_with fail
        refine HG.out.mono ?_
        rintro e w4 ⟨rfl, hb4⟩
        have HB4 : Hid (Below w.heap.size w w4) := Mem.bstep HB.out hb4
        have HO4 : Hid (HasRow w4 w.heap.size (partC l 0) 25) := Sha.row_below HO.out hb4 (by omega)
        have hz4 : w.heap.size + 1 < w4.heap.size := by have := hb4.size; omega
        have hO := HO4.out
        rw [partC_start] at hO
        have o0 : w4.cell? ⟨w.heap.size, 0, none⟩ = some (.int .i64 0) := Mem.cell_of_row hO 0
        have o1 : w4.cell? ⟨w.heap.size, 1, none⟩ = some (.int .i64 0) := Mem.cell_of_row hO 1
        have o2 : w4.cell? ⟨w.heap.size, 2, none⟩ = some (.int .i64 0) := Mem.cell_of_row hO 2
        have o3 : w4.cell? ⟨w.heap.size, 3, none⟩ = some (.int .i64 0) := Mem.cell_of_row hO 3
        have o4 : w4.cell? ⟨w.heap.size, 4, none⟩ = some (.int .i64 0) := Mem.cell_of_row hO 4
        have o5 : w4.cell? ⟨w.heap.size, 5, none⟩ = some (.int .i64 0) := Mem.cell_of_row hO 5
        have o6 : w4.cell? ⟨w.heap.size, 6, none⟩ = some (.int .i64 0) := Mem.cell_of_row hO 6
        have o7 : w4.cell? ⟨w.heap.size, 7, none⟩ = some (.string ByteArray.empty) := Mem.cell_of_row hO 7
        have of : ∀ o, w4.frozen? ⟨w.heap.size, o, none⟩ = false := Mem.frozen_of_row hO
        have g1 : ¬ w.heap.size = w4.heap.size := by omega
        have g2 : ¬ w4.heap.size = w.heap.size := by omega
        have g3 : w.heap.size < w4.heap.size := by omega
        clear hb4 c1 hO
        go_wp2
        exact bodyPost_ret (v := .agg #[.int .i64 0, .int .i64 0, .int .i64 0, .int .i64 0, .int .i64 0, .int .i64 0, .int .i64 0, .string ByteArray.empty]) (by simp [results, Tryd.results12, go_sem, World.cell?_alloc_lt, g3, o0, o1, o2, o3, o4, o5, o6, o7]; rfl) rfl ⟨by rw [HE.out]; rfl, by
          refine Mem.balloc ?_ _
          iterate 8 refine Below.setCell (p := ⟨w.heap.size, _, none⟩) ?_ (by simp) _
          exact HB4.out⟩
    · obtain rfl : k = 7 := by omega
      have hl : l.length = 7 := by omega
      have HE : Hid (gotF l t = readF l t) := by
        show _ = _
        unfold gotF; rw [if_pos hl]
      have HG : Hid (Texts 25 s (atAt l 7) t pt c wr) := HTX.out wr HB.out
      obtain ⟨VS, hVS⟩ : ∃ vs : List Value, vs = partC l 7 := ⟨_, rfl⟩
      have HVR : Hid (HasRow wr (w.heap.size + 1) VS 25) := by rw [hVS]; exact HF.out
      obtain ⟨v0, hv0⟩ : ∃ n, n = valAt l 0 := ⟨_, rfl⟩
      obtain ⟨v1, hv1⟩ : ∃ n, n = valAt l 1 := ⟨_, rfl⟩
      obtain ⟨v2, hv2⟩ : ∃ n, n = valAt l 2 := ⟨_, rfl⟩
      obtain ⟨v3, hv3⟩ : ∃ n, n = valAt l 3 := ⟨_, rfl⟩
      obtain ⟨v4, hv4⟩ : ∃ n, n = valAt l 4 := ⟨_, rfl⟩
      obtain ⟨v5, hv5⟩ : ∃ n, n = valAt l 5 := ⟨_, rfl⟩
      obtain ⟨v6, hv6⟩ : ∃ n, n = valAt l 6 := ⟨_, rfl⟩
      have HVS : Hid (VS = [.int .i64 v0, .int .i64 v1, .int .i64 v2, .int .i64 v3, .int .i64 v4, .int .i64 v5, .int .i64 v6, .string ByteArray.empty]) := by rw [hVS, hv0, hv1, hv2, hv3, hv4, hv5, hv6]; rfl
      have HRF : Hid ((readF l t).val = .agg #[.int .i64 v0, .int .i64 v1, .int .i64 v2, .int .i64 v3, .int .i64 v4, .int .i64 v5, .int .i64 v6, .string t]) := by rw [hv0, hv1, hv2, hv3, hv4, hv5, hv6]; rfl
      clear hVS HF hv0 hv1 hv2 hv3 hv4 hv5 hv6
      go_wp2_with fail
      refine HG.out.mono ?_
      rintro e w4 ⟨rfl, hb4⟩
      have HB4 : Hid (Below w.heap.size w w4) := Mem.bstep HB.out hb4
      have hO : HasRow w4 w.heap.size (partC l 0) 25 := Sha.row_below HO.out hb4 (by omega)
      have hF : HasRow w4 (w.heap.size + 1) VS 25 := Sha.row_below HVR.out hb4 hzr
      have hz4 : w.heap.size + 1 < w4.heap.size := by have := hb4.size; omega
      rw [HVS.out] at hF
      rw [partC_start] at hO
      have o0 : w4.cell? ⟨w.heap.size, 0, none⟩ = some (.int .i64 0) := Mem.cell_of_row hO 0
      have o1 : w4.cell? ⟨w.heap.size, 1, none⟩ = some (.int .i64 0) := Mem.cell_of_row hO 1
      have o2 : w4.cell? ⟨w.heap.size, 2, none⟩ = some (.int .i64 0) := Mem.cell_of_row hO 2
      have o3 : w4.cell? ⟨w.heap.size, 3, none⟩ = some (.int .i64 0) := Mem.cell_of_row hO 3
      have o4 : w4.cell? ⟨w.heap.size, 4, none⟩ = some (.int .i64 0) := Mem.cell_of_row hO 4
      have o5 : w4.cell? ⟨w.heap.size, 5, none⟩ = some (.int .i64 0) := Mem.cell_of_row hO 5
      have o6 : w4.cell? ⟨w.heap.size, 6, none⟩ = some (.int .i64 0) := Mem.cell_of_row hO 6
      have o7 : w4.cell? ⟨w.heap.size, 7, none⟩ = some (.string ByteArray.empty) := Mem.cell_of_row hO 7
      have f0 : w4.cell? ⟨w.heap.size + 1, 0, none⟩ = some (.int .i64 v0) := Mem.cell_of_row hF 0
      have f1 : w4.cell? ⟨w.heap.size + 1, 1, none⟩ = some (.int .i64 v1) := Mem.cell_of_row hF 1
      have f2 : w4.cell? ⟨w.heap.size + 1, 2, none⟩ = some (.int .i64 v2) := Mem.cell_of_row hF 2
      have f3 : w4.cell? ⟨w.heap.size + 1, 3, none⟩ = some (.int .i64 v3) := Mem.cell_of_row hF 3
      have f4 : w4.cell? ⟨w.heap.size + 1, 4, none⟩ = some (.int .i64 v4) := Mem.cell_of_row hF 4
      have f5 : w4.cell? ⟨w.heap.size + 1, 5, none⟩ = some (.int .i64 v5) := Mem.cell_of_row hF 5
      have f6 : w4.cell? ⟨w.heap.size + 1, 6, none⟩ = some (.int .i64 v6) := Mem.cell_of_row hF 6
      have f7 : w4.cell? ⟨w.heap.size + 1, 7, none⟩ = some (.string ByteArray.empty) := Mem.cell_of_row hF 7
      have of : ∀ o, w4.frozen? ⟨w.heap.size, o, none⟩ = false := Mem.frozen_of_row hO
      have ff : ∀ o, w4.frozen? ⟨w.heap.size + 1, o, none⟩ = false := Mem.frozen_of_row hF
      have g1 : ¬ w.heap.size = w4.heap.size := by omega
      have g2 : ¬ w4.heap.size = w.heap.size := by omega
      have g3 : w.heap.size < w4.heap.size := by omega
      have g4 : ¬ w.heap.size + 1 = w4.heap.size := by omega
      have g5 : ¬ w4.heap.size = w.heap.size + 1 := by omega
      have g6 : w.heap.size + 1 < w4.heap.size := by omega
      clear hb4 hO hF
      have hft := fldT0
      go_wp2
      exact bodyPost_ret (v := .agg #[.int .i64 v0, .int .i64 v1, .int .i64 v2, .int .i64 v3, .int .i64 v4, .int .i64 v5, .int .i64 v6, .string t]) (by simp [results, Tryd.results12, go_sem, o0, o1, o2, o3, o4, o5, o6, o7]) rfl ⟨by rw [HE.out, HRF.out], by
        iterate 8 refine Below.setCell (p := ⟨w.heap.size, _, none⟩) ?_ (by simp) _
        refine Below.setCell (p := ⟨w.heap.size + 1, _, none⟩) ?_ (by simp) _
        exact HB4.out⟩
end Go.Proofs.YtkanhjafchiikaaDoor.Frm
