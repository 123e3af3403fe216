/- The law on Cut. -/
import Derived.Test.YtkanhjafchiikabImplCut2
import Derived.Test.YtkanhjafchiikabSpecCut
import Derived.Test.YtkanhjafchiikabLawSpread
namespace Go.Proofs.Ytkanhjafchiikab.Frm
open Go.RowKit Go.Proofs.Ytkanhjafchiikab.Mem Go.Proofs.Ytkanhjafchiikab.Harn Go.Proofs.Ytkanhjafchiikab.Disk Go.Proofs.Ytkanhjafchiikab.Mark Go.Proofs.Ytkanhjafchiikab.Gf

set_option maxRecDepth 100000 in
set_option maxHeartbeats 1000000 in
theorem cut_law (o : Int) (t : ByteArray) (need more : Int) (w : World) (_ : (Lit.int .i64 o).wf = true) (ht : t.size ≤ maxLen) (_ : (Lit.int .i64 need).wf = true) (_ : (Lit.int .i64 more).wf = true) :
    Calls Try.prog 3 #[.int .i64 o, .string t, .int .i64 need, .int .i64 more] w fun e w' => e = .returned (.bool true) ∧ Below w.heap.size w w' := by
  unfold maxLen at ht
  by_cases h1 : 1048576 < t.size
  · have p1 : (1048576 : Int) < (t.size : Int) := by omega
    go_enter Try.func3, Try.ntmps3
    go_wp2
    go_ret
    exact ⟨rfl, Below.refl _ _⟩
  have p1 : ¬ (1048576 : Int) < (t.size : Int) := by omega
  have HSP : Hid (∀ W, Calls Try.prog 4 #[.int .i64 o, .string t, .int .i64 need, .int .i64 more] W fun e w' => ∃ u, e = .returned u ∧ OwnS w' W.heap.size u (cutO o t need more) ∧ Below W.heap.size W w') := fun W => specCut_any o t need more W (by omega)
  have HIM : Hid (∀ W, Calls Try.prog 5 #[.int .i64 o, .string t, .int .i64 need, .int .i64 more] W fun e w' => ∃ u, e = .returned u ∧ OwnS w' W.heap.size u (cutO o t need more) ∧ Below W.heap.size W w') := fun W => implCut_any o t need more W
  have hlen := cutO_len o t need more
  generalize cutO o t need more = R at *
  clear h1 ht
  go_enter Try.func3, Try.ntmps3
  go_wp2_with fail
  refine (HSP.out _).mono ?_
  rintro e w1 ⟨u, rfl, ho1, hb1⟩
  have hs1 := hb1.size
  obtain ⟨a1, cap1, gg, rfl, ha, hst, hlt⟩ := OwnS.place ho1
  have HA1 : Hid (R.length = 0 ∨ a1 = some ⟨gg, 0, none⟩) := ha
  have HS1 : Hid (StrsAt w1 gg 0 R) := hst
  have HL1 : Hid (R.length ≠ 0 → gg < w1.heap.size) := fun h => (hlt h).2
  have HB1 : Hid (Below w.heap.size w w1) := hb1
  clear ho1 hst hlt hb1 ha
  go_wp2_with fail
  refine (HIM.out _).mono ?_
  rintro e w2 ⟨u, rfl, ho2, hb2⟩
  have hs2 := hb2.size
  obtain ⟨a2, cap2, g2, rfl, ha2, hst2, hlt2⟩ := OwnS.place ho2
  have HA2 : Hid (R.length = 0 ∨ a2 = some ⟨g2, 0, none⟩) := ha2
  have HS2 : Hid (StrsAt w2 g2 0 R) := hst2
  have HL2 : Hid (R.length ≠ 0 → w1.heap.size ≤ g2 ∧ g2 < w2.heap.size) := hlt2
  have HS12 : Hid (StrsAt w2 gg 0 R) := StrsAt.below HS1.out hb2
  have HB2 : Hid (Below w.heap.size w w2) := bstep HB1.out hb2
  clear ho2 hst2 hlt2 hb2 ha2
  go_wp2_with fail
  refine (eqStr_any _ _ R _ (strs_opt HA2.out HS2.out) (strs_opt HA1.out HS12.out) (by omega)).mono ?_
  rintro e w3 ⟨rfl, n3, rfl⟩
  have HB3 : Hid (Below w.heap.size w (w2.drewN n3)) := Sha.bel_drewN HB2.out n3
  have HS23 : Hid (StrsAt (w2.drewN n3) g2 0 R) := HS2.out
  have HS13 : Hid (StrsAt (w2.drewN n3) gg 0 R) := HS12.out
  have HSZ3 : Hid ((w2.drewN n3).heap.size = w2.heap.size) := rfl
  generalize w2.drewN n3 = w3 at *
  clear HB2
  go_wp2_with fail
  refine (markStr_opt g2 0 _ 1 _ R _ HA2.out HS23.out (by omega) (by omega)).mono ?_
  rintro e w4 ⟨rfl, hst4, ho4⟩
  have HM4 : Hid (StrsAt w4 g2 0 (marks 1 R.length)) := hst4
  have HS14 : Hid (StrsAt w4 gg 0 R) := StrsAt.only HS13.out ho4 (by
    by_cases h0 : R.length = 0
    · exact .inl h0
    · refine .inr (fun h => ?_)
      have h1 := HL1.out h0
      have h2 := HL2.out h0
      omega)
  have HB4 : Hid (Below w.heap.size w w4) := Only.below ho4 HB3.out (by have := HB3.out.size; omega) (fun k hk h => by
    have h2 := HL2.out h.2
    have := h.1
    omega)
  clear hst4 ho4 HB3
  have hml : (marks 1 R.length).length = R.length := length_marks _ _
  have HML : Hid ((marks 1 R.length).length = R.length) := hml
  clear hml
  go_wp2_with fail
  refine (heldStr_any _ 1 R.length _ (strs_opt' HML.out HA2.out HM4.out) (by omega) (by omega)).mono ?_
  rintro e w5 ⟨rfl, hb5⟩
  have HB5 : Hid (Below w.heap.size w w5) := bstep HB4.out hb5
  have HS15 : Hid (StrsAt w5 gg 0 R) := StrsAt.below HS14.out hb5
  have HM5 : Hid (StrsAt w5 g2 0 (marks 1 R.length)) := StrsAt.below HM4.out hb5
  clear hb5 HB4 HS14 HM4
  go_wp2_with fail
  refine (HIM.out _).mono ?_
  rintro e w6 ⟨u, rfl, ho6, hb6⟩
  obtain ⟨a6, cap6, g6, rfl, ha6, hst6, _⟩ := OwnS.place ho6
  have HA6 : Hid (R.length = 0 ∨ a6 = some ⟨g6, 0, none⟩) := ha6
  have HS6 : Hid (StrsAt w6 g6 0 R) := hst6
  have HB6 : Hid (Below w.heap.size w w6) := bstep HB5.out hb6
  have HS16 : Hid (StrsAt w6 gg 0 R) := StrsAt.below HS15.out hb6
  have HM6 : Hid (StrsAt w6 g2 0 (marks 1 R.length)) := StrsAt.below HM5.out hb6
  clear ho6 hst6 hb6 ha6 HB5 HS15 HM5
  go_wp2_with fail
  refine (eqStr_any _ _ R _ (strs_opt HA6.out HS6.out) (strs_opt HA1.out HS16.out) (by omega)).mono ?_
  rintro e w7 ⟨rfl, n7, rfl⟩
  have HB7 : Hid (Below w.heap.size w (w6.drewN n7)) := Sha.bel_drewN HB6.out n7
  have HM7 : Hid (StrsAt (w6.drewN n7) g2 0 (marks 1 R.length)) := HM6.out
  generalize w6.drewN n7 = w7 at *
  clear HB6 HM6
  go_wp2_with fail
  refine (heldStr_any _ 1 R.length _ (strs_opt' HML.out HA2.out HM7.out) (by omega) (by omega)).mono ?_
  rintro e w8 ⟨rfl, hb8⟩
  have HB8 : Hid (Below w.heap.size w w8) := bstep HB7.out hb8
  clear hb8
  go_wp2
  go_ret
  exact ⟨rfl, HB8.out⟩
end Go.Proofs.Ytkanhjafchiikab.Frm
