/- FnSeal's own road. -/
import Derived.Test.YtednbehelcfopaaSealLaws
import Derived.Deep.RegionWith
import Derived.Laws.StructEq
namespace Go.Proofs.Ytednbehelcfopaa.SealWalk
open Go.RowKit Go.Proofs.Ytednbehelcfopaa.Mem Go.Proofs.Ytednbehelcfopaa.Four Go.Proofs.Ytednbehelcfopaa.Crc Go.Proofs.Ytednbehelcfopaa.Seal Go.Proofs.Ytednbehelcfopaa.Unseal Go.Proofs.Ytednbehelcfopaa.Draw Go.Proofs.Ytednbehelcfopaa.SealLaws

theorem big (a0 : Option Addr) (len0 cap0 : Nat) (a1 : Option Addr) (len1 cap1 : Nat) (w : World) (h : (1048576 : Int) < len0 ∨ (1048576 : Int) < len1) :
    Calls Try.prog 3 #[.slice a0 len0 cap0, .slice a1 len1 cap1] w fun e w' => e = .returned (.bool true) ∧ Below w.heap.size w w' := by
  by_cases h0 : (1048576 : Int) < len0
  · go_enter Try.func3, Try.ntmps3
    go_wp2
    go_ret
    exact ⟨rfl, Below.refl _ _⟩
  · have h1 : (1048576 : Int) < len1 := by omega
    go_enter Try.func3, Try.ntmps3
    go_wp2
    go_ret
    exact ⟨rfl, Below.refl _ _⟩

theorem fld2 (a : ByteArray) (x y : Int) (w : World) : (Instr.field 27 (.agg #[.string a, .int .i64 x, .int .i64 y]) 2).run Try.prog w = .ok (.int .i64 y) w := by kernel_rfl

set_option maxRecDepth 100000 in
set_option maxHeartbeats 4000000 in
theorem small (a0 : Option Addr) (len0 cap0 : Nat) (z0 : List Int) (a1 : Option Addr) (len1 cap1 : Nat) (z1 : List Int) (w : World) (w0 : IsRow w a0 len0 cap0 z0) (w1 : IsRow w a1 len1 cap1 z1)
    (h0 : (len0 : Int) ≤ 1048576) (h1 : (len1 : Int) ≤ 1048576) :
    Calls Try.prog 3 #[.slice a0 len0 cap0, .slice a1 len1 cap1] w fun e w' => e = .returned (.bool true) ∧ Below w.heap.size w w' := by
  have H0 : Hid (IsRow w a0 len0 cap0 z0) := w0
  have H1 : Hid (IsRow w a1 len1 cap1 z1) := w1
  clear w0 w1
  go_enter Try.func3, Try.ntmps3
  go_wp2_with fail
  refine (drawSeal_any w a0 len0 cap0 z0 H0.out).mono ?_
  rintro e W1 ⟨t, rfl, ht, hb1⟩
  by_cases h8 : t.size ≤ 7996
  · have hz := size_sealB t
    have hne : (sealB t).toList.isEmpty = false := by
      rw [list_eq]
      cases hl : (sealB t).data.toList with
      | nil =>
        have : (sealB t).size = 0 := by show (sealB t).data.size = 0; rw [← Array.length_toList, hl]; rfl
        omega
      | cons a b => rfl
    go_wp2_with fail
    refine (implSeal_in t W1 h8).mono ?_
    rintro e W2 ⟨rfl, hb2⟩
    go_wp2_with fail
    refine (specSeal_in t W2 h8).mono ?_
    rintro e W3 ⟨rfl, hb3⟩
    have hB3 := bstep (bstep hb1 hb2) hb3
    obtain ⟨W4, cap, hcv, hcap, hcell, hfz, hb4, hlt4⟩ := bytes_of (sealB t) W3
    have hB4 := bstep hB3 hb4
    clear hb1 hb2 hb3
    go_wp2_with fail
    refine (lwAt_any W4 a1 len1 cap1 z1 0 _ (row_below H1.out hB4) (by omega) (by omega) (by omega) (by omega)).mono ?_
    rintro e W5 ⟨v, rfl, hv0, hv1, rfl⟩
    obtain ⟨j, rfl⟩ := Int.eq_ofNat_of_zero_le hv0
    have hj : j < t.size + 4 := by omega
    have hcj := hcell j (by omega)
    have hfj := hfz j (by omega)
    have HC : Hid (∀ j, j < (sealB t).size → W4.cell? ⟨W3.heap.size, j, none⟩ = some (.int .u8 (((sealB t)[j]?.getD 0).toNat : Int))) := hcell
    clear hcell hfz hv0
    generalize hxj : (sealB t)[j]?.getD 0 = xj at *
    have HX : Hid ((sealB t)[j]?.getD 0 = xj) := hxj
    clear hxj
    have hxb := Crc.byte_lt xj
    go_wp2_with fail
    go_region_with (go_at_call 7; refine (lwAt_any W4.drew a1 len1 cap1 z1 1 255 (row_below H1.out hB4.drew) (by omega) (by omega) (by omega) (by omega)).mono ?_; rintro e W6 ⟨v, rfl, hv0, hv2, rfl⟩)
    all_goals
      obtain ⟨m, rfl⟩ := Int.eq_ofNat_of_zero_le hv0
      obtain ⟨hx1, hx2⟩ := xor_other xj (m + 1) (by omega) (by omega)
      have hw1 : IntKind.u8.wrap (IntKind.i64.wrap (1 + (m : Int))) = ((m + 1 : Nat) : Int) := by
        rw [IntWalk.i64_in _ ⟨by omega, by omega⟩, IntWalk.u8_in _ ⟨by omega, by omega⟩, Int.add_comm]; rfl
      rw [← hw1] at hx1
      rw [hx1]
      generalize xj ^^^ UInt8.ofNat (m + 1) = bj at *
      have hB6 : Below w.heap.size w (W4.setCell ⟨W3.heap.size, j, none⟩ (.int .u8 (bj.toNat : Int))).drew := (hB4.setCell (p := ⟨W3.heap.size, j, none⟩) hB3.size _).drew
      have HC6 : Hid (∀ i, i < (sealB t).size → (W4.setCell ⟨W3.heap.size, j, none⟩ (.int .u8 (bj.toNat : Int))).drew.cell? ⟨W3.heap.size, i, none⟩ = if i = j then some (.int .u8 (bj.toNat : Int)) else some (.int .u8 (((sealB t)[i]?.getD 0).toNat : Int))) := by
        intro i hi
        show (W4.setCell ⟨W3.heap.size, j, none⟩ (.int .u8 (bj.toNat : Int))).cell? ⟨W3.heap.size, i, none⟩ = _
        by_cases e : i = j
        · subst e
          rw [if_pos rfl]
          exact World.cell?_setCell_same _ _ _ hcj
        · rw [if_neg e]
          refine (World.cell?_setCell_other _ _ _ _ ?_).trans (HC.out i hi)
          intro hh
          exact e (by simpa using hh.symm)
      have HT : Hid (okSeal (turn (sealB t) j bj) = false) := seal_turned t j bj hj (by rw [HX.out]; exact hx2)
      have hlt6 : W3.heap.size < (W4.setCell ⟨W3.heap.size, j, none⟩ (.int .u8 (bj.toNat : Int))).drew.heap.size := by
        show W3.heap.size < (W4.setCell _ _).heap.size
        simpa [World.setCell] using hlt4
      generalize (W4.setCell ⟨W3.heap.size, j, none⟩ (.int .u8 (bj.toNat : Int))).drew = W6 at *
      clear hx1 hx2 hw1 hcj hfj HC HX hxb hB4 hlt4 hb4 hcv hv1 hv2 hv0
      go_wp2_with fail
      refine (implUnseal_in (sealB t) W6 (by omega) (by omega)).mono ?_
      rintro e W7 ⟨rfl, hb7⟩
      rw [unsealV_ok]
      have hB7 := bstep hB6 hb7
      have hct := turned_text (sealB t) W3.heap.size cap j W7 _ bj rfl (by omega) (fun i hi => by
        rw [hb7.cell (p := ⟨W3.heap.size, i, none⟩) hlt6]; exact HC6.out i hi)
      have hzt := size_turn (sealB t) j bj
      rw [hz] at hct hzt
      clear hB6 hb7 HC6 hlt6
      go_wp2_with fail
      refine (implUnseal_in (turn (sealB t) j bj) W7 (by omega) (by omega)).mono ?_
      rintro e W8 ⟨rfl, hb8⟩
      have hv5 : unsealV (turn (sealB t) j bj) = .agg #[.string ByteArray.empty, .int .i64 0, .int .i64 5] := by
        unfold unsealV; rw [HT.out]; rfl
      rw [hv5]
      have hB8 := bstep hB7 hb8
      have hfl := fld2
      clear hB7 hb8 hv5 hct hzt HT
      go_wp2_with fail
      refine (drawCrcMore_any W8 a1 len1 cap1 z1 (row_below H1.out hB8)).mono ?_
      rintro e V1 ⟨c, u, rfl, hc1, hc2, hu, hV1⟩
      have hBV := bstep hB8 hV1
      by_cases hsum : (t.size : Int) + (u.size : Int) ≤ 8000
      · have hq : (crcV (crcOf 0 t : Nat) u == ((crcOf 0 (t ++ u) : Nat) : Int)) = true := by
          have hl := crcOf_lt (x := 0) (by omega) t
          unfold crcV
          rw [if_pos ⟨by omega, by omega⟩, Int.toNat_natCast, crcOf_app]
          simp
        go_wp2_with fail
        refine (implCrcMore_all c u _ (by omega)).mono ?_
        rintro e V2 ⟨rfl, rfl⟩
        go_wp2_with fail
        refine (specCrcMore_all c u _ (by omega)).mono ?_
        rintro e V2 ⟨rfl, rfl⟩
        go_wp2_with fail
        refine (implCrc_in t _ (by omega)).mono ?_
        rintro e V2 ⟨rfl, rfl⟩
        go_wp2_with fail
        refine (implCrcMore_all _ u _ (by omega)).mono ?_
        rintro e V2 ⟨rfl, rfl⟩
        go_wp2_with fail
        refine (implCrc_in (t ++ u) _ (by rw [ByteArray.size_append]; omega)).mono ?_
        rintro e V2 ⟨rfl, rfl⟩
        go_wp2
        go_ret
        exact ⟨rfl, hBV⟩
      · go_wp2
        go_ret
        exact ⟨rfl, hBV⟩
  · go_wp2_with fail
    refine (implSeal_out t W1 h8).mono ?_
    rintro e W2 ⟨rfl, rfl⟩
    go_wp2_with fail
    refine (specSeal_out t W2 h8).mono ?_
    rintro e W3 ⟨rfl, rfl⟩
    go_wp2_with fail
    refine (drawCrcMore_any W3 a1 len1 cap1 z1 (row_below H1.out hb1)).mono ?_
    rintro e V1 ⟨c, u, rfl, hc1, hc2, hu, hV1⟩
    have hBV := bstep hb1 hV1
    by_cases hsum : (t.size : Int) + (u.size : Int) ≤ 8000
    · have hq : (crcV (crcOf 0 t : Nat) u == ((crcOf 0 (t ++ u) : Nat) : Int)) = true := by
        have hl := crcOf_lt (x := 0) (by omega) t
        unfold crcV
        rw [if_pos ⟨by omega, by omega⟩, Int.toNat_natCast, crcOf_app]
        simp
      go_wp2_with fail
      refine (implCrcMore_all c u _ (by omega)).mono ?_
      rintro e V2 ⟨rfl, rfl⟩
      go_wp2_with fail
      refine (specCrcMore_all c u _ (by omega)).mono ?_
      rintro e V2 ⟨rfl, rfl⟩
      go_wp2_with fail
      refine (implCrc_in t _ (by omega)).mono ?_
      rintro e V2 ⟨rfl, rfl⟩
      go_wp2_with fail
      refine (implCrcMore_all _ u _ (by omega)).mono ?_
      rintro e V2 ⟨rfl, rfl⟩
      go_wp2_with fail
      refine (implCrc_in (t ++ u) _ (by rw [ByteArray.size_append]; omega)).mono ?_
      rintro e V2 ⟨rfl, rfl⟩
      go_wp2
      go_ret
      exact ⟨rfl, hBV⟩
    · go_wp2
      go_ret
      exact ⟨rfl, hBV⟩

theorem law_any (a0 : Option Addr) (len0 cap0 : Nat) (z0 : List Int) (a1 : Option Addr) (len1 cap1 : Nat) (z1 : List Int) (w : World) (w0 : IsRow w a0 len0 cap0 z0) (w1 : IsRow w a1 len1 cap1 z1) :
    Calls Try.prog 3 #[.slice a0 len0 cap0, .slice a1 len1 cap1] w fun e w' => e = .returned (.bool true) ∧ Below w.heap.size w w' := by
  by_cases h : (1048576 : Int) < len0 ∨ (1048576 : Int) < len1
  · exact big a0 len0 cap0 a1 len1 cap1 w h
  · exact small a0 len0 cap0 z0 a1 len1 cap1 z1 w w0 w1 (by omega) (by omega)
end Go.Proofs.Ytednbehelcfopaa.SealWalk
